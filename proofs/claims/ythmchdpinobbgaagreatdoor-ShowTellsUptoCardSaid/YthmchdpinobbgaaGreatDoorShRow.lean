/-
  What the rows of chapter 4's statements share: the listed variables out of a row's condition; the arguments read behind the call; a world for the witness. Condition: the row's own.
  A term that came in, opened, for chapter 4's rows. Condition: the row's own.
-/
import Derived.Test.YthmchdpinobbgaaGreatDoorShBase
import Derived.Test.YthmchdpinobbgaaGreatDoorCards
import Derived.Test.YthmchdpinobbgaaGreatDoorTie
import Derived.WalkKit
import Derived.ProofKit
import Derived.OpenShut
import Derived.SizedLaws
import Derived.Deep.DeepHandedRow
import Derived.Deep.Slices
import Derived.Deep.Strs
import Derived.Lib.LaidTab
import Derived.Lib.SmallJoins
import Derived.Stop.LaidErr
import Derived.SliceStrings
import Derived.ChangeSlices
import Derived.ChangeMaps5
import Derived.Carry
import Derived.Shelf.Vars
namespace Go.Proofs.YthmchdpinobbgaaGreatDoor
open Go.ChangeShapes Go.WideShapes Go.ChangeAt Go.RowKit Go.Joins Go.Lx Go.Tm Go.Deep

theorem own : ownKnob Tryz.prog.godebug = none := by kernel_rfl
theorem laidOut : laidOutB Tryz.prog = true := by kernel_rfl
theorem gPowT : (Tryz.prog.globals[2]?).map (·.type) = some 152 := by kernel_rfl
theorem cPow : Tryz.prog.cellsOf 152 = 20 := by kernel_rfl
theorem cU64 : Tryz.prog.cellsOf 133 = 1 := by kernel_rfl
theorem gRng : Tryz.prog.globalNamed "strconv.ErrRange" = some 5 := by kernel_rfl
theorem gRngT : (Tryz.prog.globals[5]?).map (·.type) = some 105 := by kernel_rfl
theorem gSyn : Tryz.prog.globalNamed "strconv.ErrSyntax" = some 4 := by kernel_rfl
theorem gSynT : (Tryz.prog.globals[4]?).map (·.type) = some 105 := by kernel_rfl
theorem gKid : Tryz.prog.globalNamed "chancel/term.kids" = some 0 := by kernel_rfl
theorem gKidT : (Tryz.prog.globals[0]?).map (·.type) = some 89 := by kernel_rfl
theorem cKid : Tryz.prog.cellsOf 89 = 14 := by kernel_rfl
theorem cInt : Tryz.prog.cellsOf 3 = 1 := by kernel_rfl
theorem gKey : Tryz.prog.globalNamed "chancel/lex.keywords" = some 1 := by kernel_rfl
theorem gKeyT : (Tryz.prog.globals[1]?).map (·.type) = some 110 := by kernel_rfl
theorem cKey : Tryz.prog.cellsOf 110 = 14 := by kernel_rfl
theorem cStr : Tryz.prog.cellsOf 9 = 1 := by kernel_rfl
theorem cErr : Tryz.prog.cellsOf 172 = 1 := by kernel_rfl
theorem star : "*" ++ "errors.errorString" = "*errors.errorString" := by decide
theorem rowErr (u : TypeId) (h : Tryz.prog.typeName? 3 u = some "*errors.errorString") : u = 170 :=
  typeName_ptr_named (nm := "errors.errorString") (by rw [star]; kernel_rfl) (by kernel_rfl) (by decide) u (by rw [star]; exact h)

/-- an array of texts that reads as the table holds the table's texts -/
def textsData {H : Type} (l : List (List UInt8)) : DataW H := .agg (l.map fun b => .lit (.string b))
theorem cells_of_texts {H : Type} {enc : TypeId × Value → H} {P : Program} {w : World} {base : Nat} {sp : Nat → Bool} {held : Bool} {fuel : Nat} {t e : TypeId} {n : Nat} {cs : List Value} {zs : List (List UInt8)} {p : List MemPlace}
    (ht : P.underlying t = some (.array n e)) (he : P.underlying e = some .string) (hce : P.cellsOf e = 1) (hct : P.cellsOf t = n)
    (h : DataW.trod enc P w base sp held fuel t cs = some (textsData zs, p)) : cs = zs.map fun z => Value.string (X.strOf z) := by
  cases fuel with
  | zero => simp [DataW.trod] at h
  | succ fuel =>
    simp only [DataW.trod, ht, hce, hct, Nat.mul_one] at h
    split at h
    · rename_i hl
      obtain ⟨xs, hm, hx⟩ := Option.map_eq_some_iff.1 h
      have hxs : xs.map (·.1) = zs.map fun z => (DataW.lit (.string z) : DataW H) := by
        have := congrArg Prod.fst hx
        simpa [textsData] using this
      have hxl : xs.length = n := by simpa using Lib.mapM_length hm
      have hzl : zs.length = n := by
        have := congrArg List.length hxs
        simp at this
        omega
      apply List.ext_getElem?
      intro i
      by_cases hi : i < n
      · obtain ⟨b, hb, hf⟩ := Lib.mapM_at hm i i (by simp [hi])
        obtain ⟨z, hc, rfl, _⟩ := DataW.trod_string he hf
        have h1 : cs[i]? = some (.string z) := by
          have := congrArg (·[0]?) hc
          simpa [List.getElem?_take, List.getElem?_drop] using this
        have h2 : (xs.map (·.1))[i]? = some (DataW.lit (.string z.data.toList) : DataW H) := by simp [hb]
        rw [hxs] at h2
        simp only [List.getElem?_map, Option.map_eq_some_iff, DataW.lit.injEq, Lit.string.injEq] at h2
        obtain ⟨z', hz', e⟩ := h2
        rw [h1, List.getElem?_map, hz', Option.map_some, e, X.strOf_data]
      · rw [List.getElem?_eq_none (by omega), List.getElem?_eq_none (by simp; omega)]
    · cases h

/-- the list of every row of this seat -/
def laidL : List (String × DataW Unit) := Rows.showNamesRow.laid
theorem laid_form : laidL = ("math/bits.deBruijn32tab", Rows.laid_math_bits_deBruijn32tab) :: ("math/bits.deBruijn64tab", Rows.laid_math_bits_deBruijn64tab) ::
    ("internal/strconv.uint64pow10", Lib.tabData .u64 Lib.pow10Tab) :: ("strconv.ErrRange", .iface "*errors.errorString" (.ptr (.agg [.lit (.string [118, 97, 108, 117, 101, 32, 111, 117, 116, 32, 111, 102, 32, 114, 97, 110, 103, 101])]))) ::
    ("strconv.ErrSyntax", .iface "*errors.errorString" (.ptr (.agg [.lit (.string [105, 110, 118, 97, 108, 105, 100, 32, 115, 121, 110, 116, 97, 120])]))) :: ("chancel/lex.keywords", textsData keys) :: ("chancel/term.kids", Lib.tabData .i64 (kidsTab.map fun (n : Nat) => (n : Int))) :: [] := by kernel_rfl
theorem laid_plain : (laidL.filter fun x => x.2.handleName?.isSome) = [] := by kernel_rfl

theorem env_of {W : World} (hL : laidMetH Tryz.prog laidL W) (hS : W.ShapedOpen Tryz.prog) : EnvS W := by
  have h1 : laidMet Tryz.prog laidL W := by
    unfold laidMetH at hL
    rw [laid_plain] at hL
    exact hL
  rw [laid_form] at h1
  have h3 := h1.tail.tail
  have h4 := h3.tail
  have h5 := h4.tail
  have h6 := h5.tail
  obtain ⟨a1, s1, v1, _, _, _⟩ := laid_sentinel h4 gRng gRngT Tryz.underlying105 rowErr Tryz.underlying170 Tryz.underlying172 rfl rfl Tryz.underlying9 cErr cStr
  obtain ⟨a2, s2, v2, _, _, _⟩ := laid_sentinel h5 gSyn gSynT Tryz.underlying105 rowErr Tryz.underlying170 Tryz.underlying172 rfl rfl Tryz.underlying9 cErr cStr
  have h7 := h6.tail
  have htab := Lib.tabIs_of_head gKid gKidT Tryz.underlying89 Tryz.underlying3 cInt cKid h7
  have hsz : 8 ≤ W.heap.size := by
    have h3 : (((begin Tryz.prog (fun _ _ => 0) default).world.heap[7]?).bind Obj.row?).isSome = true := by kernel_rfl
    obtain ⟨⟨z, t⟩, hz⟩ := Option.isSome_iff_exists.1 h3
    obtain ⟨cs, h, _⟩ := hS.1 7 z t (of_decide_eq_true (by kernel_rfl)) hz
    have := (Array.getElem?_eq_some_iff.1 h).1
    omega
  have hkeys : ∀ j, j < keys.length → W.cell? ⟨1, j, none⟩ = some (.string (X.strOf (keys.getD j []))) := fun j hj => by
    obtain ⟨ps, ⟨g', t', cs, fuel, p, q, hg', ht', hvar, hd, _, _⟩, _⟩ := h6
    obtain rfl := Option.some.inj (gKey.symm.trans hg')
    obtain rfl := Option.some.inj (gKeyT.symm.trans ht')
    have hc := cells_of_texts Tryz.underlying110 Tryz.underlying9 cStr cKey hd
    have hcs : cs = (keys.map fun z => Value.string (X.strOf z)).toArray := by rw [← hc]
    rw [hcs] at hvar
    have h7 := World.var?_cell gKey hvar j
    have hk : (keys.map fun z => Value.string (X.strOf z))[j]? = some (.string (X.strOf (keys.getD j []))) := by
      rw [List.getElem?_map, List.getD_eq_getElem?_getD, List.getElem?_eq_getElem (show j < keys.length from hj)]; rfl
    rw [List.getElem?_toArray, hk] at h7
    exact h7
  refine ⟨⟨fun j hj => ?_, fun j hj => hkeys j hj, by omega⟩, ⟨fun j hj => hkeys j hj, Lib.tabIs_of_head X.gPow gPowT Tryz.underlying152 Tryz.underlying133 cU64 cPow h3, ⟨170, .pointer (some a2), ?_⟩, ⟨170, .pointer (some a1), ?_⟩, by omega⟩, hsz⟩
  · have h3 := htab.cell gKid j (by rw [List.length_map]; exact hj)
    rw [h3, List.getD_eq_getElem?_getD, List.getElem?_map, List.getD_eq_getElem?_getD]
    cases kidsTab[j]? <;> rfl
  · have h0 := World.var?_cell gSyn v2 0; simpa using h0
  · have h0 := World.var?_cell gRng v1 0; simpa using h0
theorem wf_u8 {n : Int} (h : (Lit.int .u8 n).wf = true) : 0 ≤ n ∧ n < 256 := by
  have h1 : (decide ((0 : Int) ≤ n) && decide (n ≤ 255)) = true := h
  rw [Bool.and_eq_true, decide_eq_true_eq, decide_eq_true_eq] at h1
  omega
set_option maxRecDepth 100000 in
/-- A small number that came in. -/
theorem open_u8 {H : Type} {enc : TypeId × Value → H} {W : World} {base : Nat} {v : Value} {d : DataW H} {p : List MemPlace}
    (hv : Value.okWide Tryz.prog W .any base 5 v) (h : DataW.Trod enc Tryz.prog W 0 (fun _ => true) true 5 v d p) : ∃ n : Int, v = .int .u8 n ∧ 0 ≤ n ∧ n < 256 := by
  obtain ⟨n, rfl, _, _, hw⟩ := open_int Tryz.underlying5 hv h
  exact ⟨n, rfl, (wf_u8 hw).1, (wf_u8 hw).2⟩

set_option maxRecDepth 100000 in
/-- BYTES THAT CAME IN. -/
theorem open_bytes {H : Type} {enc : TypeId × Value → H} {W : World} {base : Nat} {v : Value} {d : DataW H} {p : List MemPlace}
    (hval : Value.okWide Tryz.prog W .any base 25 v) (h1 : DataW.Trod enc Tryz.prog W 0 (fun _ => true) true 25 v d p) :
    ∃ (A : Option Addr) (zs : List Int) (c : Nat), v = .slice A zs.length c ∧ BtsS W A zs ∧ (∀ z ∈ zs, 0 ≤ z ∧ z ≤ 255) ∧ zs.length ≤ 9223372036854775807 ∧ zs.length ≤ c ∧ c ≤ 9223372036854775807 := by
  have hmax : maxLen = 9223372036854775807 := by rfl
  obtain ⟨a1, len, cap, rfl⟩ := okWide_slice Tryz.underlying25 hval
  obtain ⟨fuel, hf⟩ := h1
  rcases open_ints Tryz.underlying25 Tryz.underlying5 (by kernel_rfl) hf with ⟨hcs, _⟩ | ⟨a, len', cap', zs, hcs, _, hl, hm, hz, _, hcell, hwz⟩
  · simp [Value.cells] at hcs
    obtain ⟨rfl, rfl, rfl⟩ := hcs
    exact ⟨none, [], 0, rfl, fun h => absurd rfl h, by simp, by decide, by decide, by decide⟩
  · simp [Value.cells] at hcs
    obtain ⟨rfl, rfl, rfl⟩ := hcs
    simp only [if_true] at hz
    have hlen : (zs.take len).length = len := by rw [List.length_take]; omega
    refine ⟨some a, zs.take len, cap, by rw [hlen], fun hn => ?_, fun z hzz => by have := wf_u8 (hwz z (List.mem_of_mem_take hzz)); omega, by omega, by omega, by omega⟩
    have hpos : 0 < len := Nat.pos_of_ne_zero fun e => hn (by rw [e]; rfl)
    have h0 := hcell 0 (by omega)
    have hb : a.block < W.heap.size := World.block_lt_of_cell? W _ (by simpa [Addr.add] using h0)
    obtain ⟨ab, ao, spot⟩ := a
    have hspot : spot = none := by simpa [Addr.add] using World.cell?_spot h0
    subst hspot
    refine ⟨ab, ao, rfl, hb, fun j hj => ?_⟩
    rw [hlen] at hj
    have hcj := hcell j (by omega)
    rw [Addr.add_lit] at hcj
    rw [hcj, List.getD_eq_getElem?_getD, List.getD_eq_getElem?_getD, List.getElem?_take_of_lt hj]

/-- arguments of types that can be read, read behind the call as they did -/
def rowed (P : Program) (ts : List TypeId) : Bool := ts.all fun t => P.readableRec t && decide (t < P.types.size)
theorem args_same {P : Program} (hl : laidOutB P = true) {H : Type} {enc : TypeId × Value → H} {W W' : World} (hb : Below W.heap.size W W') {sp : Nat → Bool} :
    ∀ {ts : List TypeId} {vs : List Value} {ds : List (DataW H)} {ps : List MemPlace}, rowed P ts = true → DataW.TrodAll enc P W 0 (fun _ => true) true ts vs ds ps → (∀ x ∈ ps, x.block < W.heap.size) → (∀ x ∈ ps, sp x.block = true) → DataW.TrodAll enc P W' 0 sp true ts vs ds ps
  | [], _, _, _, _, h, _, _ => by
    obtain ⟨rfl, rfl, rfl⟩ := trodAll_nil h
    exact trodAll_mk0
  | t :: ts, _, _, _, hr, h, hlt, hsp => by
    obtain ⟨v, vs, d, ds, p, q, rfl, rfl, rfl, h1, h2⟩ := trodAll_cons h
    simp only [rowed, List.all_cons, Bool.and_eq_true, decide_eq_true_eq] at hr
    exact trodAll_cons_mk (WideElems.Trod_stays hl hr.1.1 hr.1.2 h1 (fun x hx => hb.same (hlt x (List.mem_append_left _ hx))) (fun x hx => hsp x (List.mem_append_left _ hx)))
      (args_same hl hb (by simpa [rowed] using hr.2) h2 (fun x hx => hlt x (List.mem_append_right _ hx)) (fun x hx => hsp x (List.mem_append_right _ hx)))
/-- THE POST, where the function answers, and what it reads stays: no variable of the program's own is named. -/
theorem post_same {P : Program} (hl : laidOutB P = true) {H : Type} {enc : TypeId × Value → H} {f : Func} {s : ChangeSpec} {W W' : World} {args : Array Value} {v : Value} {ds : List (DataW H)} {p : List MemPlace}
    (hW : DataW.Whole enc P f.params.toList s.vars false W args.toList ds [] (p ++ [])) (hA : DataW.TrodAll enc P W 0 (fun _ => true) true f.params.toList args.toList ds p)
    (hres : ∀ (b : Nat) (sp : Nat → Bool) (hd : Bool), DataW.TrodAll enc P W' b sp hd f.resultTypes.toList (v.resultList f.resultTypes.size) (s.fn H (ds ++ [])).results [])
    (hargs : (s.fn H (ds ++ [])).args = ds) (hvars : s.vars = [] ∧ (s.fn H (ds ++ [])).vars = []) (hb : Below W.heap.size W W') (hrow : rowed P f.params.toList = true) :
    s.post enc P f false true false false W args v W' := by
  have hlt : ∀ x ∈ p, x.block < W.heap.size := fun x hx => hW.lt x (by simpa using hx)
  refine ⟨ds, [], p ++ [], [], p, [], hW, hres _ _ _, ?_, ?_, hb.frame _, fun h => by cases h⟩
  · rw [hargs]
    exact args_same hl hb hrow hA hlt fun x hx => by simpa using hlt x hx
  · rw [hvars.1, hvars.2]
    exact rfl

/-- A WORLD FOR THE WITNESS: the settled one, the listed variables holding what their initialisers lay; the two errors in new blocks. -/
def lits1 : DataW Unit → List Value
  | .lit (.int k n) => [.int k n]
  | .lit (.string b) => [.string (X.strOf b)]
  | _ => []
def lits2 : DataW Unit → List Value
  | .agg l => l.flatMap lits1
  | _ => []
def laidObj (d : DataW Unit) : Obj → Obj
  | .cells _ t frozen => .cells (lits2 d).toArray t frozen
  | o => o
abbrev synS : ByteArray := ⟨#[105, 110, 118, 97, 108, 105, 100, 32, 115, 121, 110, 116, 97, 120]⟩
abbrev rngS : ByteArray := ⟨#[118, 97, 108, 117, 101, 32, 111, 117, 116, 32, 111, 102, 32, 114, 97, 110, 103, 101]⟩
noncomputable def low : Nat := (World.holding Tryz.prog default ⟨#[], #[], []⟩).heap.size
def ptrTo (b : Nat) : Obj → Obj
  | .cells _ t frozen => .cells #[.iface 170 (.pointer (some ⟨b, 0, none⟩))] t frozen
  | o => o
noncomputable def laidWorld (os : Os) : World :=
  let w0 := World.holding Tryz.prog os ⟨#[.cells #[.string rngS] 172, .cells #[.string synS] 172], #[], []⟩
  { w0 with heap := ((laidL.foldl (fun h x => match Tryz.prog.globalNamed x.1 with | some g => if g = 5 then h else if g = 4 then h else h.modify g (laidObj x.2) | none => h) w0.heap).modify 5 (ptrTo low)).modify 4 (ptrTo (low + 1)) }
end Go.Proofs.YthmchdpinobbgaaGreatDoor
namespace Go.Proofs.YthmchdpinobbgaaGreatDoor
open Go.ChangeShapes Go.WideShapes Go.ChangeAt Go.RowKit Go.Joins Go.Tm Go.Deep

theorem cTm : Tryz.prog.cellsOf 24 = 4 := by kernel_rfl
theorem cI64 : Tryz.prog.cellsOf 2 = 1 := by kernel_rfl
theorem cSl : Tryz.prog.cellsOf 22 = 1 := by kernel_rfl
theorem row_of {W : World} {p : Nat → Prop} {b : Nat} : ∀ (ks : List Go.Tm.T) (o : Nat), (∀ i, i < ks.length → NodeAt W p b (o + i * 4) (ks.getD i default)) → RowAt W p b o ks
  | [], o, _ => by rw [RowAt]; trivial
  | t :: ks, o, h => by
    rw [RowAt]
    refine ⟨by have := h 0 (by simp); simpa using this, row_of ks (o + 4) fun i hi => ?_⟩
    have := h (i + 1) (by simpa using hi)
    rw [show o + 4 + i * 4 = o + (i + 1) * 4 by omega]
    simpa using this
theorem bulk_mem {H : Type} : ∀ (l : List (DataW H)) (d : DataW H), d ∈ l → Rows.uptoBulk d ≤ Rows.uptoBulkAll l
  | [], _, h => by cases h
  | x :: l, d, h => by
    rw [Rows.uptoBulkAll]
    rcases List.mem_cons.1 h with rfl | h
    · omega
    · have := bulk_mem l d h
      omega
theorem sizes_le {H : Type} (D : Nat → DataW H) (q : Nat → Go.Tm.T) : ∀ (l : List Nat), (∀ i, i ∈ l → (q i).size ≤ Rows.uptoBulk (D i)) → sizes (l.map q) ≤ Rows.uptoBulkAll (l.map D)
  | [], _ => by rw [List.map_nil, sizes]; exact Nat.zero_le _
  | i :: l, h => by
    rw [List.map_cons, List.map_cons, sizes, Rows.uptoBulkAll]
    have h1 := h i (by simp)
    have h2 := sizes_le D q l fun j hj => h j (by simp [hj])
    omega
theorem spot_none {W : World} {a : Addr} {v : Value} (h : W.cell? (a.add (0 * 4)) = some v) : a.spot = none := by
  simpa [Addr.add] using World.cell?_spot h

set_option maxRecDepth 100000 in
/-- A TERM THAT CAN BE READ. -/
theorem open_node {H : Type} {enc : TypeId × Value → H} {W : World} : ∀ (N : Nat) (d : DataW H), Rows.uptoBulk d ≤ N → ∀ (fuel : Nat) (cs : List Value) (pl : List MemPlace),
    DataW.trod enc Tryz.prog W 0 (fun _ => true) true fuel 24 cs = some (d, pl) →
    ∃ (t : Go.Tm.T) (A : Option Addr) (c : Nat), cs = [.int .i64 t.kind, .string t.name, .int .i64 t.num, .slice A t.kids.length c] ∧ TmV W (· < W.heap.size) t A c ∧ t.size ≤ Rows.uptoBulk d
  | 0, d, hd => by
    have h1 : 1 ≤ Rows.uptoBulk d := by
      cases d with
      | lit l => cases l <;> simp [Rows.uptoBulk]
      | _ => simp [Rows.uptoBulk]
    omega
  | N + 1, d, hd => by
    intro fuel cs pl h
    obtain ⟨y0, y1, y2, y3, n, hx, hl, u0, u1, u2, u3⟩ := trod_struct4 Tryz.underlying24 h
    rw [cTm] at hl
    match cs, hl with
    | [v0, v1, v2, v3], _ =>
      simp only [cStr, cInt, cI64, cSl, List.drop, List.take] at u0 u1 u2 u3
      obtain ⟨k, e0, d0, _⟩ := DataW.trod_int Tryz.underlying3 u0
      obtain ⟨s, e1, d1, hsz⟩ := DataW.trod_string Tryz.underlying9 u1
      obtain ⟨m, e2, d2, _⟩ := DataW.trod_int Tryz.underlying2 u2
      simp only [List.cons.injEq, and_true] at e0 e1 e2
      subst e0; subst e1; subst e2
      simp only [Prod.mk.injEq] at hx
      have hmax : maxLen = 9223372036854775807 := by rfl
      have hsz' : s.size ≤ 9223372036854775807 := by omega
      rcases open_slice Tryz.underlying22 u3 with ⟨hcs, hx3⟩ | ⟨a, len, cap, mm, n', D, Pl, hcs, hb, hlc, hm, hmm, hx3, hat⟩
      · simp only [List.cons.injEq, and_true] at hcs
        subst hcs
        refine ⟨.node k s m [], none, 0, rfl, ⟨hsz', .inl rfl⟩, ?_⟩
        rw [hx.1, T.size, sizes]
        simp only [Rows.uptoBulk]
        omega
      · simp only [List.cons.injEq, and_true] at hcs
        subst hcs
        have hbulk : Rows.uptoBulkAll ((List.range len).map D) + 1 < Rows.uptoBulk d := by
          rw [hx.1, hx3]
          simp only [Rows.uptoBulk, Rows.uptoBulkAll]
          have h1 : 1 ≤ Rows.uptoBulk y0.1 := by rw [d0]; simp [Rows.uptoBulk]
          omega
        have hlm : len ≤ mm := by rw [hmm]; split <;> omega
        have hspot0 : 0 < len → a.spot = none := fun h0 => by
          obtain ⟨cs', h1, _⟩ := hat 0 (by omega)
          rw [cTm] at h1
          obtain ⟨_, hlen, hcell⟩ := World.cells?_some h1
          have c0 := hcell 0 (by omega)
          rw [List.getElem?_eq_getElem (by omega)] at c0
          simpa [Addr.add] using World.cell?_spot c0
        have each : ∀ i, i < len → ∃ t : Go.Tm.T, (∃ ab ao, a = ⟨ab, ao, none⟩ ∧ NodeAt W (· < W.heap.size) ab (ao + i * 4) t) ∧ t.size ≤ Rows.uptoBulk (D i) := by
          intro i hi
          obtain ⟨cs', h1, h2⟩ := hat i (by omega)
          rw [cTm] at h1
          obtain ⟨_, hlen, hcell⟩ := World.cells?_some h1
          have hDi : Rows.uptoBulk (D i) ≤ N := by
            have := bulk_mem ((List.range len).map D) (D i) (List.mem_map.2 ⟨i, List.mem_range.2 hi, rfl⟩)
            omega
          obtain ⟨t, A, c, hcs', hT, hts⟩ := open_node N (D i) hDi n' cs' (Pl i) h2
          subst hcs'
          have c0 := hcell 0 (by omega)
          have c1 := hcell 1 (by omega)
          have c2 := hcell 2 (by omega)
          have c3 := hcell 3 (by omega)
          rw [add_add] at c0 c1 c2 c3
          have hbk : a.block < W.heap.size := by
            have := World.block_lt_of_cell? W _ c0
            have e : (a.add (i * 4 + 0)).block = a.block := by unfold Addr.add; split <;> rfl
            omega
          have hspot : a.spot = none := hspot0 (by omega)
          obtain ⟨ab, ao, spot⟩ := a
          obtain rfl : spot = none := hspot
          rw [Addr.add_lit] at c0 c1 c2 c3
          refine ⟨t, ⟨ab, ao, rfl, ?_⟩, hts⟩
          rw [T.eta t, NodeAt]
          refine ⟨hbk, hT.nsz, by simpa using c0, by simpa [Nat.add_assoc] using c1, by simpa [Nat.add_assoc] using c2, A, c, by simpa [Nat.add_assoc] using c3, hT.row⟩
        obtain ⟨q, hq⟩ := choose_lt each
        have hks : sizes ((List.range len).map q) ≤ Rows.uptoBulkAll ((List.range len).map D) := sizes_le D q _ fun i hi => (hq i (List.mem_range.1 hi)).2
        refine ⟨.node k s m ((List.range len).map q), some a, cap, by simp [T.kids, T.kind, T.name, T.num], ⟨hsz', ?_⟩, ?_⟩
        · by_cases h0 : len = 0
          · left; subst h0; rfl
          · right
            obtain ⟨ab, ao, rfl, _⟩ := (hq 0 (by omega)).1
            refine ⟨ab, ao, rfl, row_of _ _ fun i hi => ?_⟩
            have hi' : i < len := by simpa [T.kids] using hi
            obtain ⟨ab', ao', h9, hn⟩ := (hq i hi').1
            cases h9
            have e : ((List.range len).map q).getD i default = q i := by
              rw [List.getD_eq_getElem?_getD, List.getElem?_map, List.getElem?_range hi']; rfl
            show NodeAt W _ ab (ao + i * 4) (((List.range len).map q).getD i default)
            rw [e]; exact hn
        · rw [T.size]; omega

def noTerm : Value := .agg #[.int .i64 0, .string ⟨#[]⟩, .int .i64 0, .slice none 0 0]

set_option maxRecDepth 100000 in
/-- A TERM THAT CAME IN. -/
theorem open_term {H : Type} {enc : TypeId × Value → H} {W : World} {base : Nat} {v : Value} {d : DataW H} {p : List MemPlace}
    (hv : Value.okWide Tryz.prog W .any base 24 v) (h : DataW.Trod enc Tryz.prog W 0 (fun _ => true) true 24 v d p) :
    ∃ (t : Go.Tm.T) (A : Option Addr) (c : Nat), v = tmV t A c ∧ TmV W (· < W.heap.size) t A c ∧ t.size ≤ Rows.uptoBulk d := by
  obtain ⟨v0, v1, v2, v3, _, _, _, _, n, rfl, _⟩ := open_agg4 Tryz.underlying24 (by kernel_rfl) cTm hv h
  obtain ⟨fuel, hf⟩ := h
  obtain ⟨t, A, c, hcs, hT, hs⟩ := open_node _ d (Nat.le_refl _) fuel _ p hf
  refine ⟨t, A, c, ?_, hT, hs⟩
  simp only [Value.cells, List.cons.injEq, and_true] at hcs
  obtain ⟨rfl, rfl, rfl, rfl⟩ := hcs
  rfl
end Go.Proofs.YthmchdpinobbgaaGreatDoor
