/-
  What the rows of the terms' statements share: the listed variables out of a row's condition; terms that came in, opened; a world for the witness. Condition: the row's own.
-/
import Derived.Test.YtmomdehilfnpcaaDoorTmEx
import Derived.Test.YtmomdehilfnpcaaDoorCards
import Derived.Test.YtmomdehilfnpcaaDoorTie
import Derived.WalkKit
import Derived.ProofKit
import Derived.OpenShut
import Derived.SizedLaws
import Derived.Deep.DeepHandedRow
import Derived.Deep.Slices
import Derived.Deep.Strs
import Derived.Lib.LaidTab
import Derived.Lib.SmallJoins
import Derived.Stop.LaidErr
import Derived.SliceStrings
import Derived.ChangeSlices
import Derived.ChangeMaps5
import Derived.Carry
import Derived.Shelf.Vars
namespace Go.Proofs.YtmomdehilfnpcaaDoor
open Go.ChangeShapes Go.WideShapes Go.ChangeAt Go.RowKit Go.Joins Go.Tm Go.Deep

theorem cTm : Tryd.prog.cellsOf 24 = 4 := by kernel_rfl
theorem cInt : Tryd.prog.cellsOf 3 = 1 := by kernel_rfl
theorem cI64 : Tryd.prog.cellsOf 2 = 1 := by kernel_rfl
theorem cStr : Tryd.prog.cellsOf 9 = 1 := by kernel_rfl
theorem cSl : Tryd.prog.cellsOf 22 = 1 := by kernel_rfl

theorem row_of {W : World} {p : Nat → Prop} {b : Nat} : ∀ (ks : List Go.Tm.T) (o : Nat), (∀ i, i < ks.length → NodeAt W p b (o + i * 4) (ks.getD i default)) → RowAt W p b o ks
  | [], o, _ => by rw [RowAt]; trivial
  | t :: ks, o, h => by
    rw [RowAt]
    refine ⟨by have := h 0 (by simp); simpa using this, row_of ks (o + 4) fun i hi => ?_⟩
    have := h (i + 1) (by simpa using hi)
    rw [show o + 4 + i * 4 = o + (i + 1) * 4 by omega]
    simpa using this
theorem bulk_mem {H : Type} : ∀ (l : List (DataW H)) (d : DataW H), d ∈ l → Rows.uptoBulk d ≤ Rows.uptoBulkAll l
  | [], _, h => by cases h
  | x :: l, d, h => by
    rw [Rows.uptoBulkAll]
    rcases List.mem_cons.1 h with rfl | h
    · omega
    · have := bulk_mem l d h
      omega
theorem sizes_le {H : Type} (D : Nat → DataW H) (q : Nat → Go.Tm.T) : ∀ (l : List Nat), (∀ i, i ∈ l → (q i).size ≤ Rows.uptoBulk (D i)) → sizes (l.map q) ≤ Rows.uptoBulkAll (l.map D)
  | [], _ => by rw [List.map_nil, sizes]; exact Nat.zero_le _
  | i :: l, h => by
    rw [List.map_cons, List.map_cons, sizes, Rows.uptoBulkAll]
    have h1 := h i (by simp)
    have h2 := sizes_le D q l fun j hj => h j (by simp [hj])
    omega
theorem spot_none {W : World} {a : Addr} {v : Value} (h : W.cell? (a.add (0 * 4)) = some v) : a.spot = none := by
  simpa [Addr.add] using World.cell?_spot h

set_option maxRecDepth 100000 in
/-- A TERM THAT CAN BE READ. -/
theorem open_node {H : Type} {enc : TypeId × Value → H} {W : World} : ∀ (N : Nat) (d : DataW H), Rows.uptoBulk d ≤ N → ∀ (fuel : Nat) (cs : List Value) (pl : List MemPlace),
    DataW.trod enc Tryd.prog W 0 (fun _ => true) true fuel 24 cs = some (d, pl) →
    ∃ (t : Go.Tm.T) (A : Option Addr) (c : Nat), cs = [.int .i64 t.kind, .string t.name, .int .i64 t.num, .slice A t.kids.length c] ∧ TmV W (· < W.heap.size) t A c ∧ t.size ≤ Rows.uptoBulk d
  | 0, d, hd => by
    have h1 : 1 ≤ Rows.uptoBulk d := by
      cases d with
      | lit l => cases l <;> simp [Rows.uptoBulk]
      | _ => simp [Rows.uptoBulk]
    omega
  | N + 1, d, hd => by
    intro fuel cs pl h
    obtain ⟨y0, y1, y2, y3, n, hx, hl, u0, u1, u2, u3⟩ := trod_struct4 Tryd.underlying24 h
    rw [cTm] at hl
    match cs, hl with
    | [v0, v1, v2, v3], _ =>
      simp only [cStr, cInt, cI64, cSl, List.drop, List.take] at u0 u1 u2 u3
      obtain ⟨k, e0, d0, _⟩ := DataW.trod_int Tryd.underlying3 u0
      obtain ⟨s, e1, d1, hsz⟩ := DataW.trod_string Tryd.underlying9 u1
      obtain ⟨m, e2, d2, _⟩ := DataW.trod_int Tryd.underlying2 u2
      simp only [List.cons.injEq, and_true] at e0 e1 e2
      subst e0; subst e1; subst e2
      simp only [Prod.mk.injEq] at hx
      have hmax : maxLen = 9223372036854775807 := by rfl
      have hsz' : s.size ≤ 9223372036854775807 := by omega
      rcases open_slice Tryd.underlying22 u3 with ⟨hcs, hx3⟩ | ⟨a, len, cap, mm, n', D, Pl, hcs, hb, hlc, hm, hmm, hx3, hat⟩
      · simp only [List.cons.injEq, and_true] at hcs
        subst hcs
        refine ⟨.node k s m [], none, 0, rfl, ⟨hsz', .inl rfl⟩, ?_⟩
        rw [hx.1, T.size, sizes]
        simp only [Rows.uptoBulk]
        omega
      · simp only [List.cons.injEq, and_true] at hcs
        subst hcs
        have hbulk : Rows.uptoBulkAll ((List.range len).map D) + 1 < Rows.uptoBulk d := by
          rw [hx.1, hx3]
          simp only [Rows.uptoBulk, Rows.uptoBulkAll]
          have h1 : 1 ≤ Rows.uptoBulk y0.1 := by rw [d0]; simp [Rows.uptoBulk]
          omega
        have hlm : len ≤ mm := by rw [hmm]; split <;> omega
        have hspot0 : 0 < len → a.spot = none := fun h0 => by
          obtain ⟨cs', h1, _⟩ := hat 0 (by omega)
          rw [cTm] at h1
          obtain ⟨_, hlen, hcell⟩ := World.cells?_some h1
          have c0 := hcell 0 (by omega)
          rw [List.getElem?_eq_getElem (by omega)] at c0
          simpa [Addr.add] using World.cell?_spot c0
        have each : ∀ i, i < len → ∃ t : Go.Tm.T, (∃ ab ao, a = ⟨ab, ao, none⟩ ∧ NodeAt W (· < W.heap.size) ab (ao + i * 4) t) ∧ t.size ≤ Rows.uptoBulk (D i) := by
          intro i hi
          obtain ⟨cs', h1, h2⟩ := hat i (by omega)
          rw [cTm] at h1
          obtain ⟨_, hlen, hcell⟩ := World.cells?_some h1
          have hDi : Rows.uptoBulk (D i) ≤ N := by
            have := bulk_mem ((List.range len).map D) (D i) (List.mem_map.2 ⟨i, List.mem_range.2 hi, rfl⟩)
            omega
          obtain ⟨t, A, c, hcs', hT, hts⟩ := open_node N (D i) hDi n' cs' (Pl i) h2
          subst hcs'
          have c0 := hcell 0 (by omega)
          have c1 := hcell 1 (by omega)
          have c2 := hcell 2 (by omega)
          have c3 := hcell 3 (by omega)
          rw [add_add] at c0 c1 c2 c3
          have hbk : a.block < W.heap.size := by
            have := World.block_lt_of_cell? W _ c0
            have e : (a.add (i * 4 + 0)).block = a.block := by unfold Addr.add; split <;> rfl
            omega
          have hspot : a.spot = none := hspot0 (by omega)
          obtain ⟨ab, ao, spot⟩ := a
          obtain rfl : spot = none := hspot
          rw [Addr.add_lit] at c0 c1 c2 c3
          refine ⟨t, ⟨ab, ao, rfl, ?_⟩, hts⟩
          rw [T.eta t, NodeAt]
          refine ⟨hbk, hT.nsz, by simpa using c0, by simpa [Nat.add_assoc] using c1, by simpa [Nat.add_assoc] using c2, A, c, by simpa [Nat.add_assoc] using c3, hT.row⟩
        obtain ⟨q, hq⟩ := choose_lt each
        have hks : sizes ((List.range len).map q) ≤ Rows.uptoBulkAll ((List.range len).map D) := sizes_le D q _ fun i hi => (hq i (List.mem_range.1 hi)).2
        refine ⟨.node k s m ((List.range len).map q), some a, cap, by simp [T.kids, T.kind, T.name, T.num], ⟨hsz', ?_⟩, ?_⟩
        · by_cases h0 : len = 0
          · left; subst h0; rfl
          · right
            obtain ⟨ab, ao, rfl, _⟩ := (hq 0 (by omega)).1
            refine ⟨ab, ao, rfl, row_of _ _ fun i hi => ?_⟩
            have hi' : i < len := by simpa [T.kids] using hi
            obtain ⟨ab', ao', h9, hn⟩ := (hq i hi').1
            cases h9
            have e : ((List.range len).map q).getD i default = q i := by
              rw [List.getD_eq_getElem?_getD, List.getElem?_map, List.getElem?_range hi']; rfl
            show NodeAt W _ ab (ao + i * 4) (((List.range len).map q).getD i default)
            rw [e]; exact hn
        · rw [T.size]; omega

theorem own : ownKnob Tryd.prog.godebug = none := by kernel_rfl
theorem laidOut : laidOutB Tryd.prog = true := by kernel_rfl
theorem gKey : Tryd.prog.globalNamed "chancel/lex.keywords" = some 1 := by kernel_rfl
theorem gKeyT : (Tryd.prog.globals[1]?).map (·.type) = some 107 := by kernel_rfl
theorem cKey : Tryd.prog.cellsOf 107 = 14 := by kernel_rfl
theorem gKid : Tryd.prog.globalNamed "chancel/term.kids" = some 0 := by kernel_rfl
theorem gKidT : (Tryd.prog.globals[0]?).map (·.type) = some 90 := by kernel_rfl
theorem cKid : Tryd.prog.cellsOf 90 = 14 := by kernel_rfl
def txOf (l : List UInt8) : ByteArray := ⟨l.toArray⟩
theorem txOf_data (s : ByteArray) : txOf s.data.toList = s := by cases s; simp [txOf]
/-- an array of texts that reads as the table holds the table's texts -/
def textsData {H : Type} (l : List (List UInt8)) : DataW H := .agg (l.map fun b => .lit (.string b))
theorem cells_of_texts {H : Type} {enc : TypeId × Value → H} {P : Program} {w : World} {base : Nat} {sp : Nat → Bool} {held : Bool} {fuel : Nat} {t e : TypeId} {n : Nat} {cs : List Value} {zs : List (List UInt8)} {p : List MemPlace}
    (ht : P.underlying t = some (.array n e)) (he : P.underlying e = some .string) (hce : P.cellsOf e = 1) (hct : P.cellsOf t = n)
    (h : DataW.trod enc P w base sp held fuel t cs = some (textsData zs, p)) : cs = zs.map fun z => Value.string (txOf z) := by
  cases fuel with
  | zero => simp [DataW.trod] at h
  | succ fuel =>
    simp only [DataW.trod, ht, hce, hct, Nat.mul_one] at h
    split at h
    · rename_i hl
      obtain ⟨xs, hm, hx⟩ := Option.map_eq_some_iff.1 h
      have hxs : xs.map (·.1) = zs.map fun z => (DataW.lit (.string z) : DataW H) := by
        have := congrArg Prod.fst hx
        simpa [textsData] using this
      have hxl : xs.length = n := by simpa using Lib.mapM_length hm
      have hzl : zs.length = n := by
        have := congrArg List.length hxs
        simp at this
        omega
      apply List.ext_getElem?
      intro i
      by_cases hi : i < n
      · obtain ⟨b, hb, hf⟩ := Lib.mapM_at hm i i (by simp [hi])
        obtain ⟨z, hc, rfl, _⟩ := DataW.trod_string he hf
        have h1 : cs[i]? = some (.string z) := by
          have := congrArg (·[0]?) hc
          simpa [List.getElem?_take, List.getElem?_drop] using this
        have h2 : (xs.map (·.1))[i]? = some (DataW.lit (.string z.data.toList) : DataW H) := by simp [hb]
        rw [hxs] at h2
        simp only [List.getElem?_map, Option.map_eq_some_iff, DataW.lit.injEq, Lit.string.injEq] at h2
        obtain ⟨z', hz', e⟩ := h2
        rw [h1, List.getElem?_map, hz', Option.map_some, e, txOf_data]
      · rw [List.getElem?_eq_none (by omega), List.getElem?_eq_none (by simp; omega)]
    · cases h

/-- the list of every row of this seat -/
def laidL : List (String × DataW Unit) := Rows.termTellsRow.laid
theorem laid_form : laidL = ("chancel/lex.keywords", textsData Lx.keys) :: ("chancel/term.kids", Lib.tabData .i64 (kidsTab.map fun (n : Nat) => (n : Int))) :: [] := by kernel_rfl
theorem laid_plain : (laidL.filter fun x => x.2.handleName?.isSome) = [] := by kernel_rfl
theorem env_of {W : World} (hL : laidMetH Tryd.prog laidL W) (hS : W.ShapedOpen Tryd.prog) : Env W := by
  have h1 : laidMet Tryd.prog laidL W := by
    unfold laidMetH at hL
    rw [laid_plain] at hL
    exact hL
  rw [laid_form] at h1
  have h2 := h1.tail
  have htab := Lib.tabIs_of_head gKid gKidT Tryd.underlying90 Tryd.underlying3 cInt cKid h2
  refine ⟨fun j hj => ?_, fun j hj => ?_, ?_⟩
  · have h3 := htab.cell gKid j (by rw [List.length_map]; exact hj)
    rw [h3, List.getD_eq_getElem?_getD, List.getElem?_map, List.getD_eq_getElem?_getD]
    cases kidsTab[j]? <;> rfl
  · obtain ⟨ps, ⟨g', t', cs, fuel, p, q, hg', ht', hvar, hd, _, _⟩, _⟩ := h1
    obtain rfl := Option.some.inj (gKey.symm.trans hg')
    obtain rfl := Option.some.inj (gKeyT.symm.trans ht')
    have hc := cells_of_texts Tryd.underlying107 Tryd.underlying9 cStr cKey hd
    have hcs : cs = (Lx.keys.map fun z => Value.string (txOf z)).toArray := by rw [← hc]
    rw [hcs] at hvar
    have h7 := World.var?_cell gKey hvar j
    have hk : (Lx.keys.map fun z => Value.string (txOf z))[j]? = some (.string (txOf (Lx.keys.getD j []))) := by
      rw [List.getElem?_map, List.getD_eq_getElem?_getD, List.getElem?_eq_getElem (show j < Lx.keys.length from hj)]; rfl
    rw [List.getElem?_toArray, hk] at h7
    exact h7
  · have h3 : (((begin Tryd.prog (fun _ _ => 0) default).world.heap[1]?).bind Obj.row?).isSome = true := by kernel_rfl
    obtain ⟨⟨z, t⟩, hz⟩ := Option.isSome_iff_exists.1 h3
    obtain ⟨cs, h, _⟩ := hS.1 1 z t (of_decide_eq_true (by kernel_rfl)) hz
    have := (Array.getElem?_eq_some_iff.1 h).1
    omega
theorem wf_u8 {n : Int} (h : (Lit.int .u8 n).wf = true) : 0 ≤ n ∧ n < 256 := by
  have h1 : (decide ((0 : Int) ≤ n) && decide (n ≤ 255)) = true := h
  rw [Bool.and_eq_true, decide_eq_true_eq, decide_eq_true_eq] at h1
  omega
set_option maxRecDepth 100000 in
/-- A small number that came in. -/
theorem open_u8 {H : Type} {enc : TypeId × Value → H} {W : World} {base : Nat} {v : Value} {d : DataW H} {p : List MemPlace}
    (hv : Value.okWide Tryd.prog W .any base 5 v) (h : DataW.Trod enc Tryd.prog W 0 (fun _ => true) true 5 v d p) : ∃ n : Int, v = .int .u8 n ∧ 0 ≤ n ∧ n < 256 := by
  obtain ⟨n, rfl, _, _, hw⟩ := open_int Tryd.underlying5 hv h
  exact ⟨n, rfl, (wf_u8 hw).1, (wf_u8 hw).2⟩

/-- arguments of types that can be read, read behind the call as they did -/
def rowed (P : Program) (ts : List TypeId) : Bool := ts.all fun t => P.readableRec t && decide (t < P.types.size)
theorem args_same {P : Program} (hl : laidOutB P = true) {H : Type} {enc : TypeId × Value → H} {W W' : World} (hb : Below W.heap.size W W') {sp : Nat → Bool} :
    ∀ {ts : List TypeId} {vs : List Value} {ds : List (DataW H)} {ps : List MemPlace}, rowed P ts = true → DataW.TrodAll enc P W 0 (fun _ => true) true ts vs ds ps → (∀ x ∈ ps, x.block < W.heap.size) → (∀ x ∈ ps, sp x.block = true) → DataW.TrodAll enc P W' 0 sp true ts vs ds ps
  | [], _, _, _, _, h, _, _ => by
    obtain ⟨rfl, rfl, rfl⟩ := trodAll_nil h
    exact trodAll_mk0
  | t :: ts, _, _, _, hr, h, hlt, hsp => by
    obtain ⟨v, vs, d, ds, p, q, rfl, rfl, rfl, h1, h2⟩ := trodAll_cons h
    simp only [rowed, List.all_cons, Bool.and_eq_true, decide_eq_true_eq] at hr
    exact trodAll_cons_mk (WideElems.Trod_stays hl hr.1.1 hr.1.2 h1 (fun x hx => hb.same (hlt x (List.mem_append_left _ hx))) (fun x hx => hsp x (List.mem_append_left _ hx)))
      (args_same hl hb (by simpa [rowed] using hr.2) h2 (fun x hx => hlt x (List.mem_append_right _ hx)) (fun x hx => hsp x (List.mem_append_right _ hx)))
/-- THE POST, where the function answers, and what it reads stays: no variable of the program's own is named. -/
theorem post_same {P : Program} (hl : laidOutB P = true) {H : Type} {enc : TypeId × Value → H} {f : Func} {s : ChangeSpec} {W W' : World} {args : Array Value} {v : Value} {ds : List (DataW H)} {p : List MemPlace}
    (hW : DataW.Whole enc P f.params.toList s.vars false W args.toList ds [] (p ++ [])) (hA : DataW.TrodAll enc P W 0 (fun _ => true) true f.params.toList args.toList ds p)
    (hres : ∀ (b : Nat) (sp : Nat → Bool) (hd : Bool), DataW.TrodAll enc P W' b sp hd f.resultTypes.toList (v.resultList f.resultTypes.size) (s.fn H (ds ++ [])).results [])
    (hargs : (s.fn H (ds ++ [])).args = ds) (hvars : s.vars = [] ∧ (s.fn H (ds ++ [])).vars = []) (hb : Below W.heap.size W W') (hrow : rowed P f.params.toList = true) :
    s.post enc P f false true false false W args v W' := by
  have hlt : ∀ x ∈ p, x.block < W.heap.size := fun x hx => hW.lt x (by simpa using hx)
  refine ⟨ds, [], p ++ [], [], p, [], hW, hres _ _ _, ?_, ?_, hb.frame _, fun h => by cases h⟩
  · rw [hargs]
    exact args_same hl hb hrow hA hlt fun x hx => by simpa using hlt x hx
  · rw [hvars.1, hvars.2]
    exact rfl

/-- A WORLD FOR THE WITNESS: the settled one, the listed variables holding what their initialisers lay. -/
def lits1 : DataW Unit → List Value
  | .lit (.int k n) => [.int k n]
  | .lit (.string b) => [.string (txOf b)]
  | _ => []
def lits2 : DataW Unit → List Value
  | .agg l => l.flatMap lits1
  | _ => []
def laidObj (d : DataW Unit) : Obj → Obj
  | .cells _ t frozen => .cells (lits2 d).toArray t frozen
  | o => o
noncomputable def laidWorld (os : Os) : World :=
  { World.holding Tryd.prog os ⟨#[], #[], []⟩ with heap := laidL.foldl (fun h x => match Tryd.prog.globalNamed x.1 with | some g => h.modify g (laidObj x.2) | none => h) (World.holding Tryd.prog os ⟨#[], #[], []⟩).heap }
def noTerm : Value := .agg #[.int .i64 0, .string ⟨#[]⟩, .int .i64 0, .slice none 0 0]

set_option maxRecDepth 100000 in
/-- A TERM THAT CAME IN. -/
theorem open_term {H : Type} {enc : TypeId × Value → H} {W : World} {base : Nat} {v : Value} {d : DataW H} {p : List MemPlace}
    (hv : Value.okWide Tryd.prog W .any base 24 v) (h : DataW.Trod enc Tryd.prog W 0 (fun _ => true) true 24 v d p) :
    ∃ (t : Go.Tm.T) (A : Option Addr) (c : Nat), v = tmV t A c ∧ TmV W (· < W.heap.size) t A c ∧ t.size ≤ Rows.uptoBulk d := by
  obtain ⟨v0, v1, v2, v3, _, _, _, _, n, rfl, _⟩ := open_agg4 Tryd.underlying24 (by kernel_rfl) cTm hv h
  obtain ⟨fuel, hf⟩ := h
  obtain ⟨t, A, c, hcs, hT, hs⟩ := open_node _ d (Nat.le_refl _) fuel _ p hf
  refine ⟨t, A, c, ?_, hT, hs⟩
  simp only [Value.cells, List.cons.injEq, and_true] at hcs
  obtain ⟨rfl, rfl, rfl, rfl⟩ := hcs
  rfl
end Go.Proofs.YtmomdehilfnpcaaDoor
