/-
  What the rows of chapter 6's statements share: the listed variables out of a row's condition; the arguments read behind the call; a world for the witness. Condition: the row's own.
-/
import Derived.Test.YtjnfhebbphdchaaGreatDoorPaPr
import Derived.Test.YtjnfhebbphdchaaGreatDoorPgBox
import Derived.LaidHandle
import Derived.Test.YtjnfhebbphdchaaGreatDoorCards
import Derived.Test.YtjnfhebbphdchaaGreatDoorTie
import Derived.WalkKit
import Derived.ProofKit
import Derived.OpenShut
import Derived.SizedLaws
import Derived.Deep.DeepHandedRow
import Derived.Deep.Slices
import Derived.Deep.Strs
import Derived.Lib.LaidTab
import Derived.Lib.SmallJoins
import Derived.Stop.LaidErr
import Derived.SliceStrings
import Derived.ChangeSlices
import Derived.ChangeMaps5
import Derived.Carry
import Derived.Shelf.Vars
set_option maxRecDepth 100000
namespace Go.Proofs.YtjnfhebbphdchaaGreatDoor
open Go.ChangeShapes Go.WideShapes Go.ChangeAt Go.RowKit Go.Joins Go.Lx Go.Tm Go.Deep
theorem own : ownKnob Tryz.prog.godebug = none := by kernel_rfl
theorem qlh : laidOutB Tryz.prog = true := by kernel_rfl
theorem gPowT : (Tryz.prog.globals[4]?).map (·.type) = some 278 := by kernel_rfl
theorem cPow : Tryz.prog.cellsOf 278 = 20 := by kernel_rfl
theorem cU64 : Tryz.prog.cellsOf 260 = 1 := by kernel_rfl
theorem gRng : Tryz.prog.globalNamed "strconv.ErrRange" = some 6 := by kernel_rfl
theorem gRngT : (Tryz.prog.globals[6]?).map (·.type) = some 129 := by kernel_rfl
theorem gSyn : Tryz.prog.globalNamed "strconv.ErrSyntax" = some 5 := by kernel_rfl
theorem gSynT : (Tryz.prog.globals[5]?).map (·.type) = some 129 := by kernel_rfl
theorem gKid : Tryz.prog.globalNamed "chancel/term.kids" = some 2 := by kernel_rfl
theorem gKidT : (Tryz.prog.globals[2]?).map (·.type) = some 232 := by kernel_rfl
theorem cKid : Tryz.prog.cellsOf 232 = 14 := by kernel_rfl
theorem cInt : Tryz.prog.cellsOf 3 = 1 := by kernel_rfl
theorem gKey : Tryz.prog.globalNamed "chancel/lex.keywords" = some 0 := by kernel_rfl
theorem gKeyT : (Tryz.prog.globals[0]?).map (·.type) = some 199 := by kernel_rfl
theorem cKey : Tryz.prog.cellsOf 199 = 14 := by kernel_rfl
theorem cStr : Tryz.prog.cellsOf 9 = 1 := by kernel_rfl
theorem cErr : Tryz.prog.cellsOf 290 = 1 := by kernel_rfl
theorem star : "*" ++ "errors.errorString" = "*errors.errorString" := by decide
theorem qrq (u : TypeId) (h : Tryz.prog.typeName? 3 u = some "*errors.errorString") : u = 288 :=
 typeName_ptr_named (nm := "errors.errorString") (by rw [star]; kernel_rfl) (by kernel_rfl) (by decide) u (by rw [star]; exact h)
def qht {H : Type} (l : List (List UInt8)) : DataW H := .agg (l.map fun b => .lit (.string b))
theorem qhD {H : Type} {enc : TypeId × Value -> H} {P : Program} {w : World} {base : Nat} {sp : Nat -> Bool} {held : Bool} {fuel : Nat} {t e : TypeId} {n : Nat} {cs : List Value} {zs : List (List UInt8)} {p : List MemPlace}
   (ht : P.underlying t = some (.array n e)) (he : P.underlying e = some .string) (hce : P.cellsOf e = 1) (hct : P.cellsOf t = n)
   (h : DataW.trod enc P w base sp held fuel t cs = some (qht zs, p)) : cs = zs.map fun z => Value.string (X.strOf z) := by
 cases fuel with
 | zero => simp [DataW.trod] at h
 | succ fuel =>
   simp only [DataW.trod, ht, hce, hct, Nat.mul_one] at h
   split at h
   . rename_i hl
     obtain ⟨xs, hm, hx⟩ := Option.map_eq_some_iff.1 h
     have hxs : xs.map (·.1) = zs.map fun z => (DataW.lit (.string z) : DataW H) := by
       have := congrArg Prod.fst hx
       simpa [qht] using this
     have hxl : xs.length = n := by simpa using Lib.mapM_length hm
     have hzl : zs.length = n := by
       have := congrArg List.length hxs
       simp at this
       omega
     apply List.ext_getElem?
     intro i
     by_cases hi : i < n
     . obtain ⟨b, hb, hf⟩ := Lib.mapM_at hm i i (by simp [hi])
       obtain ⟨z, hc, rfl, _⟩ := DataW.trod_string he hf
       have h1 : cs[i]? = some (.string z) := by
         have := congrArg (·[0]?) hc
         simpa [List.getElem?_take, List.getElem?_drop] using this
       have h2 : (xs.map (·.1))[i]? = some (DataW.lit (.string z.data.toList) : DataW H) := by simp [hb]
       rw [hxs] at h2
       simp only [List.getElem?_map, Option.map_eq_some_iff, DataW.lit.injEq, Lit.string.injEq] at h2
       obtain ⟨z', hz', e⟩ := h2
       rw [h1, List.getElem?_map, hz', Option.map_some, e, X.qbx]
     . rw [List.getElem?_eq_none (by omega), List.getElem?_eq_none (by simp; omega)]
   . cases h
def laidA : List (String × DataW Unit) := Rows.progTellsRow.laid
def laidL : List (String × DataW Unit) := laidA.filter fun x => x.2.handleName?.isNone
theorem qpD : laidL = ("math/bits.deBruijn32tab", Rows.laid_math_bits_deBruijn32tab) :: ("math/bits.deBruijn64tab", Rows.laid_math_bits_deBruijn64tab) ::
   ("internal/strconv.uint64pow10", Lib.tabData .u64 Lib.pow10Tab) :: ("strconv.ErrRange", .iface "*errors.errorString" (.ptr (.agg [.lit (.string [118, 97, 108, 117, 101, 32, 111, 117, 116, 32, 111, 102, 32, 114, 97, 110, 103, 101])]))) ::
   ("strconv.ErrSyntax", .iface "*errors.errorString" (.ptr (.agg [.lit (.string [105, 110, 118, 97, 108, 105, 100, 32, 115, 121, 110, 116, 97, 120])]))) :: ("chancel/lex.keywords", qht keys) :: ("chancel/term.kids", Lib.tabData .i64 (qav.map fun (n : Nat) => (n : Int))) :: [] := by kernel_rfl
theorem qli : (laidA.filter fun x => x.2.handleName?.isSome) = [("errors.errorType", .iface "internal/reflectlite.rtype" (.agg [.ptr (.lit (.string [101, 114, 114, 111, 114]))]))] := by kernel_rfl
theorem gErr : Tryz.prog.globalNamed "errors.errorType" = some 1 := by kernel_rfl
theorem qtn : (Tryz.prog.cutTypes.find? (·.1 == "internal/reflectlite.rtype")).map (·.2) = some 244 := by kernel_rfl
theorem qto : ((List.range Tryz.prog.types.size).filter fun t => Tryz.prog.rowNamed t [101, 114, 114, 111, 114]) = [129] := by kernel_rfl
theorem qpE {W : World} (hL : laidMetH Tryz.prog laidA W) (hS : W.ShapedOpen Tryz.prog) : Pa.EnvP W := by
 have h0 : laidMet Tryz.prog laidL W /\ handlesMet Tryz.prog [("errors.errorType", .iface "internal/reflectlite.rtype" (.agg [.ptr (.lit (.string [101, 114, 114, 111, 114]))]))] W := by
   unfold laidMetH at hL
   rw [qli] at hL
   exact hL
 have hEt : Pa.ErrT W := by
   obtain ⟨name, u, ty, e1, e2, e3, e4, e5⟩ := h0.2 _ (List.mem_singleton.2 rfl)
   have en : name = [101, 114, 114, 111, 114] := (Option.some.inj e1).symm
   subst en
   obtain rfl := Option.some.inj (qtn.symm.trans e2)
   have hm : ty ∈ (List.range Tryz.prog.types.size).filter fun t => Tryz.prog.rowNamed t [101, 114, 114, 111, 114] := List.mem_filter.2 ⟨List.mem_range.2 e3, e4⟩
   rw [qto] at hm
   obtain rfl := List.mem_singleton.1 hm
   have hh : typeHandle Tryz.prog 129 = .pointer (some ⟨9, 129, none⟩) := by kernel_rfl
   rw [hh] at e5
   have h9 := World.var?_cell gErr e5 0
   unfold Pa.ErrT
   simpa using h9
 have h1 := h0.1
 rw [qpD] at h1
 have h3 := h1.tail.tail
 have h4 := h3.tail
 have h5 := h4.tail
 have h6 := h5.tail
 obtain ⟨a1, s1, v1, _, _, _⟩ := laid_sentinel h4 gRng gRngT Tryz.underlying129 qrq Tryz.underlying288 Tryz.underlying290 rfl rfl Tryz.underlying9 cErr cStr
 obtain ⟨a2, s2, v2, _, _, _⟩ := laid_sentinel h5 gSyn gSynT Tryz.underlying129 qrq Tryz.underlying288 Tryz.underlying290 rfl rfl Tryz.underlying9 cErr cStr
 have h7 := h6.tail
 have htab := Lib.tabIs_of_head gKid gKidT Tryz.underlying232 Tryz.underlying3 cInt cKid h7
 have hsz : 8 <= W.heap.size := by
   have h3 : (((begin Tryz.prog (fun _ _ => 0) default).world.heap[7]?).bind Obj.row?).isSome = true := by kernel_rfl
   obtain ⟨⟨z, t⟩, hz⟩ := Option.isSome_iff_exists.1 h3
   obtain ⟨cs, h, _⟩ := hS.1 7 z t (of_decide_eq_true (by kernel_rfl)) hz
   have := (Array.getElem?_eq_some_iff.1 h).1
   omega
 have hkeys : ∀ j, j < keys.length -> W.cell? ⟨0, j, none⟩ = some (.string (X.strOf (keys.getD j []))) := fun j hj => by
   obtain ⟨ps, ⟨g', t', cs, fuel, p, q, hg', ht', hvar, hd, _, _⟩, _⟩ := h6
   obtain rfl := Option.some.inj (gKey.symm.trans hg')
   obtain rfl := Option.some.inj (gKeyT.symm.trans ht')
   have hc := qhD Tryz.underlying199 Tryz.underlying9 cStr cKey hd
   have hcs : cs = (keys.map fun z => Value.string (X.strOf z)).toArray := by rw [<- hc]
   rw [hcs] at hvar
   have h7 := World.var?_cell gKey hvar j
   have hk : (keys.map fun z => Value.string (X.strOf z))[j]? = some (.string (X.strOf (keys.getD j []))) := by
     rw [List.getElem?_map, List.getD_eq_getElem?_getD, List.getElem?_eq_getElem (show j < keys.length from hj)]; rfl
   rw [List.getElem?_toArray, hk] at h7
   exact h7
 refine ⟨⟨⟨fun j hj => ?_, fun j hj => hkeys j hj, by omega⟩, ⟨fun j hj => hkeys j hj, Lib.tabIs_of_head X.gPow gPowT Tryz.underlying278 Tryz.underlying260 cU64 cPow h3, ⟨288, .pointer (some a2), ?_⟩, ⟨288, .pointer (some a1), ?_⟩, by omega⟩, hsz⟩, hEt⟩
 . have h3 := htab.cell gKid j (by rw [List.length_map]; exact hj)
   rw [h3, List.getD_eq_getElem?_getD, List.getElem?_map, List.getD_eq_getElem?_getD]
   cases qav[j]? <;> rfl
 . have h0 := World.var?_cell gSyn v2 0; simpa using h0
 . have h0 := World.var?_cell gRng v1 0; simpa using h0
theorem wf_u8 {n : Int} (h : (Lit.int .u8 n).wf = true) : 0 <= n /\ n < 256 := by
 have h1 : (decide ((0 : Int) <= n) && decide (n <= 255)) = true := h
 rw [Bool.and_eq_true, decide_eq_true_eq, decide_eq_true_eq] at h1
 omega
theorem qpF {H : Type} {enc : TypeId × Value -> H} {W : World} {base : Nat} {v : Value} {d : DataW H} {p : List MemPlace}
   (hv : Value.okWide Tryz.prog W .any base 5 v) (h : DataW.Trod enc Tryz.prog W 0 (fun _ => true) true 5 v d p) : ∃ n : Int, v = .int .u8 n /\ 0 <= n /\ n < 256 := by
 obtain ⟨n, rfl, _, _, hw⟩ := open_int Tryz.underlying5 hv h
 exact ⟨n, rfl, (wf_u8 hw).1, (wf_u8 hw).2⟩
def rowed (P : Program) (ts : List TypeId) : Bool := ts.all fun t => P.readableRec t && decide (t < P.types.size)
theorem qkf {P : Program} (hl : laidOutB P = true) {H : Type} {enc : TypeId × Value -> H} {W W' : World} (hb : Below W.heap.size W W') {sp : Nat -> Bool} :
   ∀ {ts : List TypeId} {vs : List Value} {ds : List (DataW H)} {ps : List MemPlace}, rowed P ts = true -> DataW.TrodAll enc P W 0 (fun _ => true) true ts vs ds ps -> (∀ x ∈ ps, x.block < W.heap.size) -> (∀ x ∈ ps, sp x.block = true) -> DataW.TrodAll enc P W' 0 sp true ts vs ds ps
 | [], _, _, _, _, h, _, _ => by
   obtain ⟨rfl, rfl, rfl⟩ := trodAll_nil h
   exact trodAll_mk0
 | t :: ts, _, _, _, hr, h, hlt, hsp => by
   obtain ⟨v, vs, d, ds, p, q, rfl, rfl, rfl, h1, h2⟩ := trodAll_cons h
   simp only [rowed, List.all_cons, Bool.and_eq_true, decide_eq_true_eq] at hr
   exact trodAll_cons_mk (WideElems.Trod_stays hl hr.1.1 hr.1.2 h1 (fun x hx => hb.same (hlt x (List.mem_append_left _ hx))) (fun x hx => hsp x (List.mem_append_left _ hx)))
     (qkf hl hb (by simpa [rowed] using hr.2) h2 (fun x hx => hlt x (List.mem_append_right _ hx)) (fun x hx => hsp x (List.mem_append_right _ hx)))
theorem qhu {P : Program} (hl : laidOutB P = true) {H : Type} {enc : TypeId × Value -> H} {f : Func} {s : ChangeSpec} {W W' : World} {args : Array Value} {v : Value} {ds : List (DataW H)} {p : List MemPlace}
   (hW : DataW.Whole enc P f.params.toList s.vars false W args.toList ds [] (p ++ [])) (hA : DataW.TrodAll enc P W 0 (fun _ => true) true f.params.toList args.toList ds p)
   (hres : ∀ (b : Nat) (sp : Nat -> Bool) (hd : Bool), DataW.TrodAll enc P W' b sp hd f.resultTypes.toList (v.resultList f.resultTypes.size) (s.fn H (ds ++ [])).results [])
   (hargs : (s.fn H (ds ++ [])).args = ds) (hvars : s.vars = [] /\ (s.fn H (ds ++ [])).vars = []) (hb : Below W.heap.size W W') (hrow : rowed P f.params.toList = true) :
   s.post enc P f false true false false W args v W' := by
 have hlt : ∀ x ∈ p, x.block < W.heap.size := fun x hx => hW.lt x (by simpa using hx)
 refine ⟨ds, [], p ++ [], [], p, [], hW, hres _ _ _, ?_, ?_, hb.frame _, fun h => by cases h⟩
 . rw [hargs]
   exact qkf hl hb hrow hA hlt fun x hx => by simpa using hlt x hx
 . rw [hvars.1, hvars.2]
   exact rfl
def lits1 : DataW Unit -> List Value
 | .lit (.int k n) => [.int k n]
 | .lit (.string b) => [.string (X.strOf b)]
 | _ => []
def lits2 : DataW Unit -> List Value
 | .agg l => l.flatMap lits1
 | _ => []
def qsw (d : DataW Unit) : Obj -> Obj
 | .cells _ t frozen => .cells (lits2 d).toArray t frozen
 | o => o
abbrev synS : ByteArray := ⟨#[105, 110, 118, 97, 108, 105, 100, 32, 115, 121, 110, 116, 97, 120]⟩
abbrev rngS : ByteArray := ⟨#[118, 97, 108, 117, 101, 32, 111, 117, 116, 32, 111, 102, 32, 114, 97, 110, 103, 101]⟩
noncomputable def low : Nat := (World.holding Tryz.prog default ⟨#[], #[], []⟩).heap.size
def ptrTo (b : Nat) : Obj -> Obj
 | .cells _ t frozen => .cells #[.iface 288 (.pointer (some ⟨b, 0, none⟩))] t frozen
 | o => o
def qtp : Obj -> Obj
 | .cells _ t frozen => .cells #[.iface 244 (.agg #[.pointer (some ⟨9, 129, none⟩)])] t frozen
 | o => o
noncomputable def qca (os : Os) : World :=
 let w0 := World.holding Tryz.prog os ⟨#[.cells #[.string rngS] 290, .cells #[.string synS] 290], #[], []⟩
 { w0 with heap := (((laidL.foldl (fun h x => match Tryz.prog.globalNamed x.1 with | some g => if g = 6 then h else if g = 5 then h else h.modify g (qsw x.2) | none => h) w0.heap).modify 6 (ptrTo low)).modify 5 (ptrTo (low + 1))).modify 1 qtp }
end Go.Proofs.YtjnfhebbphdchaaGreatDoor
