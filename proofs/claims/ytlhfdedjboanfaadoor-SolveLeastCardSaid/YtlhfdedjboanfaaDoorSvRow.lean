/-
  What the rows of this seat share: the library's variables out of a row's condition; arguments that came in, opened; the arguments read behind the call; a world for the witness. Condition: the row's own.
-/
import Derived.Test.YtlhfdedjboanfaaDoorSvMath
import Derived.Test.YtlhfdedjboanfaaDoorAtTurn
import Derived.Test.YtlhfdedjboanfaaDoorCards
import Derived.Test.YtlhfdedjboanfaaDoorTie
import Derived.WalkKit
import Derived.ProofKit
import Derived.OpenShut
import Derived.SizedLaws
import Derived.Deep.DeepHandedRow
import Derived.Deep.Slices
import Derived.Deep.Strs
import Derived.Lib.LaidTab
import Derived.Lib.SmallJoins
import Derived.Stop.LaidErr
import Derived.SliceStrings
import Derived.ChangeSlices
import Derived.ChangeMaps5
import Derived.Carry
import Derived.Shelf.Vars
namespace Go.Proofs.YtlhfdedjboanfaaDoor
open Go.ChangeShapes Go.WideShapes Go.ChangeAt Go.RowKit Go.Joins Go.At Go.Deep

theorem own : ownKnob Tryd.prog.godebug = none := by kernel_rfl
theorem laidOut : laidOutB Tryd.prog = true := by kernel_rfl
theorem gTab : Tryd.prog.globalNamed "math/bits.deBruijn64tab" = some 0 := by kernel_rfl
theorem gTabType : (Tryd.prog.globals[0]?).map (·.type) = some 141 := by kernel_rfl
theorem cTab : Tryd.prog.cellsOf 141 = 64 := by kernel_rfl
theorem cU8 : Tryd.prog.cellsOf 5 = 1 := by kernel_rfl
theorem cPair : Tryd.prog.cellsOf 58 = 2 := by kernel_rfl
theorem cAtom : Tryd.prog.cellsOf 28 = 1 := by kernel_rfl
theorem cStr : Tryd.prog.cellsOf 9 = 1 := by kernel_rfl
theorem bPair : Tryd.prog.bytesOf 58 = 16 := by kernel_rfl

/-- the list of every row of this seat -/
def laidL : List (String × DataW Unit) := Rows.solveVarsRow.laid
theorem laid_head : laidL = ("math/bits.deBruijn64tab", Lib.tabData .u8 (Lib.deBruijn64tab.map fun n : Nat => (n : Int))) :: laidL.tail := by kernel_rfl
theorem laid_plain : (laidL.filter fun x => x.2.handleName?.isSome) = [] := by kernel_rfl
theorem env_of {W : World} (hL : laidMetH Tryd.prog laidL W) (hS : W.ShapedOpen Tryd.prog) : L.Env W := by
  have h1 : laidMet Tryd.prog laidL W := by
    unfold laidMetH at hL
    rw [laid_plain] at hL
    exact hL
  rw [laid_head] at h1
  have h2 := Lib.tabIs_of_head gTab gTabType Tryd.underlying141 Tryd.underlying5 cU8 cTab h1
  refine ⟨fun j hj => ?_, ?_⟩
  · have := h2.cell gTab j (by simpa using hj)
    rw [this]
    simp only [List.getD_eq_getElem?_getD, List.getElem?_map]
    rw [List.getElem?_eq_getElem hj]
    rfl
  · have h3 : (((begin Tryd.prog (fun _ _ => 0) default).world.heap[1 - 1]?).bind Obj.row?).isSome = true := by kernel_rfl
    obtain ⟨⟨z, t⟩, hz⟩ := Option.isSome_iff_exists.1 h3
    obtain ⟨cs, h, _⟩ := hS.1 (1 - 1) z t (of_decide_eq_true (by kernel_rfl)) hz
    have := (Array.getElem?_eq_some_iff.1 h).1
    omega
theorem wf_i64 {n : Int} (h : (Lit.int .i64 n).wf = true) : I64 n := by
  have h1 : (decide ((-9223372036854775808 : Int) ≤ n) && decide (n ≤ 9223372036854775807)) = true := h
  rw [Bool.and_eq_true, decide_eq_true_eq, decide_eq_true_eq] at h1
  exact h1
theorem wf_u8 {n : Int} (h : (Lit.int .u8 n).wf = true) : 0 ≤ n ∧ n < 256 := by
  have h1 : (decide ((0 : Int) ≤ n) && decide (n ≤ 255)) = true := h
  rw [Bool.and_eq_true, decide_eq_true_eq, decide_eq_true_eq] at h1
  omega
theorem bulk_one {H : Type} (d : DataW H) : 1 ≤ Rows.uptoBulk d := by
  cases d with
  | lit l => cases l <;> simp [Rows.uptoBulk]
  | _ => simp [Rows.uptoBulk]
theorem bulk_len {H : Type} : ∀ l : List (DataW H), l.length ≤ Rows.uptoBulkAll l
  | [] => by simp
  | d :: r => by
    have h1 := bulk_one d
    have h2 := bulk_len r
    simp only [List.length_cons, Rows.uptoBulkAll]
    omega
section
variable {H : Type} {enc : TypeId × Value → H} {W : World} {base : Nat} {v : Value} {d : DataW H} {p : List MemPlace}
set_option maxRecDepth 100000 in
theorem open_u8 (hv : Value.okWide Tryd.prog W .any base 5 v) (h : DataW.Trod enc Tryd.prog W 0 (fun _ => true) true 5 v d p) : ∃ n : Int, v = .int .u8 n ∧ 0 ≤ n ∧ n < 256 := by
  obtain ⟨n, rfl, _, _, hw⟩ := open_int Tryd.underlying5 hv h
  exact ⟨n, rfl, (wf_u8 hw).1, (wf_u8 hw).2⟩
set_option maxRecDepth 100000 in
theorem open_i64 (hv : Value.okWide Tryd.prog W .any base 3 v) (h : DataW.Trod enc Tryd.prog W 0 (fun _ => true) true 3 v d p) : ∃ n : Int, v = .int .i64 n ∧ I64 n := by
  obtain ⟨n, rfl, _, _, hw⟩ := open_int Tryd.underlying3 hv h
  exact ⟨n, rfl, wf_i64 hw⟩
set_option maxRecDepth 100000 in
theorem open_atom (hv : Value.okWide Tryd.prog W .any base 28 v) (h : DataW.Trod enc Tryd.prog W 0 (fun _ => true) true 28 v d p) : ∃ n : Int, v = .int .i64 n ∧ I64 n := by
  obtain ⟨n, rfl, _, _, hw⟩ := open_int Tryd.underlying28 hv h
  exact ⟨n, rfl, wf_i64 hw⟩
theorem spot_none {a : Addr} {u : Value} (h : W.cell? a = some u) : a.spot = none := World.cell?_spot h
set_option maxRecDepth 100000 in
theorem open_pairs (hval : Value.okWide Tryd.prog W .any base 26 v) (h1 : DataW.Trod enc Tryd.prog W 0 (fun _ => true) true 26 v d p) :
    ∃ (A : Option Addr) (l : List Pr) (c : Nat), v = .slice A l.length c ∧ Prs W A l ∧ (∀ p ∈ l, I64 p.1 ∧ I64 p.2) ∧ OkS A l.length c ∧ l.length ≤ Rows.uptoBulk d ∧ (l.length ≠ 0 → ∃ el sp, d = .slice el sp ∧ el.length = l.length) := by
  obtain ⟨a1, len1, cap1, rfl⟩ := okWide_slice Tryd.underlying26 hval
  obtain ⟨fuel, hf⟩ := h1
  rcases open_slice Tryd.underlying26 hf with ⟨hcs, hx⟩ | ⟨a, len, cap, m, n, D, Pl, hcs, hb, hl, hm, hmm, hxx, hx⟩
  · simp [Value.cells] at hcs
    obtain ⟨rfl, rfl, rfl⟩ := hcs
    exact ⟨none, [], 0, rfl, Prs.nil _ _, by simp, ⟨Nat.le_refl _, Nat.zero_le _, fun _ => rfl⟩, Nat.zero_le _, fun h => absurd rfl h⟩
  · simp [Value.cells] at hcs
    obtain ⟨rfl, rfl, rfl⟩ := hcs
    have hlm : len1 ≤ m := by rw [hmm]; split <;> omega
    have each : ∀ i, i < m → ∃ q : Pr, W.cell? (a.add (i * 2)) = some (.int .i64 q.1) ∧ W.cell? (a.add (i * 2 + 1)) = some (.int .i64 q.2) ∧ (I64 q.1 ∧ I64 q.2) ∧ D i = .agg [.lit (.int .i64 q.1), .lit (.int .i64 q.2)] := by
      intro i hi
      obtain ⟨cs', h1, h2⟩ := hx i hi
      rw [cPair] at h1
      obtain ⟨_, hlen, hcell⟩ := World.cells?_some h1
      obtain ⟨y0, y1, k, hxy, _, u0, u1⟩ := trod_struct2 Tryd.underlying58 h2
      match cs', hlen with
      | [v0, v1], _ =>
        simp only [cAtom, List.drop, List.take] at u0 u1
        obtain ⟨q, e0, d0, w0⟩ := DataW.trod_int Tryd.underlying28 u0
        obtain ⟨r, e1, d1, w1⟩ := DataW.trod_int Tryd.underlying28 u1
        simp only [List.cons.injEq, and_true] at e0 e1
        subst e0; subst e1
        have c0 := hcell 0 (by omega)
        have c1 := hcell 1 (by omega)
        rw [add_add] at c0 c1
        simp only [Prod.mk.injEq] at hxy
        exact ⟨(q, r), by simpa using c0, by simpa using c1, ⟨wf_i64 w0, wf_i64 w1⟩, by rw [hxy.1, d0, d1]⟩
    obtain ⟨q, hq⟩ := choose_lt each
    refine ⟨some a, (List.range len1).map q, cap1, by simp, fun hn => ?_, ?_, ⟨by simpa using hl, hm, fun h => by cases h⟩, ?_, ?_⟩
    · have hpos : 0 < len1 := Nat.pos_of_ne_zero fun e => hn (by rw [e]; rfl)
      have h0 := (hq 0 (by omega)).1
      have hbk : a.block < W.heap.size := World.block_lt_of_cell? W _ (by simpa [Addr.add] using h0)
      obtain ⟨ab, ao, spot⟩ := a
      have hspot : spot = none := by simpa [Addr.add] using World.cell?_spot h0
      subst hspot
      refine ⟨ab, ao, rfl, hbk, fun j hj => ?_⟩
      rw [List.length_map, List.length_range] at hj
      obtain ⟨g0, g1, _⟩ := hq j (by omega)
      rw [Addr.add_lit] at g0 g1
      have e : ((List.range len1).map q).getD j (0, 0) = q j := by
        rw [List.getD_eq_getElem?_getD, List.getElem?_map, List.getElem?_range hj]; rfl
      rw [e]
      exact ⟨g0, g1⟩
    · intro x hx
      obtain ⟨i, hi, rfl⟩ := List.mem_map.1 hx
      exact (hq i (by have := List.mem_range.1 hi; omega)).2.2.1
    · simp only [Prod.mk.injEq] at hxx
      rw [hxx.1]
      simp only [Rows.uptoBulk, List.length_map, List.length_range]
      have hle : ∀ l : List (DataW H), l.length ≤ Rows.uptoBulkAll l := bulk_len
      have := hle ((List.range len1).map D)
      simp only [List.length_map, List.length_range] at this
      omega
    · intro _
      simp only [Prod.mk.injEq] at hxx
      exact ⟨_, _, hxx.1, by simp⟩
end

/-- arguments of types that can be read, read behind the call as they did -/
def rowed (P : Program) (ts : List TypeId) : Bool := ts.all fun t => P.readableRec t && decide (t < P.types.size)
theorem args_same {P : Program} (hl : laidOutB P = true) {H : Type} {enc : TypeId × Value → H} {W W' : World} (hb : Below W.heap.size W W') {sp : Nat → Bool} :
    ∀ {ts : List TypeId} {vs : List Value} {ds : List (DataW H)} {ps : List MemPlace}, rowed P ts = true → DataW.TrodAll enc P W 0 (fun _ => true) true ts vs ds ps → (∀ x ∈ ps, x.block < W.heap.size) → (∀ x ∈ ps, sp x.block = true) → DataW.TrodAll enc P W' 0 sp true ts vs ds ps
  | [], _, _, _, _, h, _, _ => by
    obtain ⟨rfl, rfl, rfl⟩ := trodAll_nil h
    exact trodAll_mk0
  | t :: ts, _, _, _, hr, h, hlt, hsp => by
    obtain ⟨v, vs, d, ds, p, q, rfl, rfl, rfl, h1, h2⟩ := trodAll_cons h
    simp only [rowed, List.all_cons, Bool.and_eq_true, decide_eq_true_eq] at hr
    exact trodAll_cons_mk (WideElems.Trod_stays hl hr.1.1 hr.1.2 h1 (fun x hx => hb.same (hlt x (List.mem_append_left _ hx))) (fun x hx => hsp x (List.mem_append_left _ hx)))
      (args_same hl hb (by simpa [rowed] using hr.2) h2 (fun x hx => hlt x (List.mem_append_right _ hx)) (fun x hx => hsp x (List.mem_append_right _ hx)))
/-- THE POST, where the function answers, and what it reads stays: no variable of the program's own is named. -/
theorem post_same {P : Program} (hl : laidOutB P = true) {H : Type} {enc : TypeId × Value → H} {f : Func} {s : ChangeSpec} {W W' : World} {args : Array Value} {v : Value} {ds : List (DataW H)} {p : List MemPlace}
    (hW : DataW.Whole enc P f.params.toList s.vars false W args.toList ds [] (p ++ [])) (hA : DataW.TrodAll enc P W 0 (fun _ => true) true f.params.toList args.toList ds p)
    (hres : ∀ (b : Nat) (sp : Nat → Bool) (hd : Bool), DataW.TrodAll enc P W' b sp hd f.resultTypes.toList (v.resultList f.resultTypes.size) (s.fn H (ds ++ [])).results [])
    (hargs : (s.fn H (ds ++ [])).args = ds) (hvars : s.vars = [] ∧ (s.fn H (ds ++ [])).vars = []) (hb : Below W.heap.size W W') (hrow : rowed P f.params.toList = true) :
    s.post enc P f false true false false W args v W' := by
  have hlt : ∀ x ∈ p, x.block < W.heap.size := fun x hx => hW.lt x (by simpa using hx)
  refine ⟨ds, [], p ++ [], [], p, [], hW, hres _ _ _, ?_, ?_, hb.frame _, fun h => by cases h⟩
  · rw [hargs]
    exact args_same hl hb hrow hA hlt fun x hx => by simpa using hlt x hx
  · rw [hvars.1, hvars.2]
    exact rfl

/-- A WORLD FOR THE WITNESS: the settled one, the listed variables holding what their initialisers lay. -/
def lits1 : DataW Unit → List Value
  | .lit (.int k n) => [.int k n]
  | .agg l => l.flatMap fun | .lit (.int k n) => [.int k n] | _ => []
  | _ => []
def lits2 : DataW Unit → List Value
  | .agg l => l.flatMap lits1
  | _ => []
def laidObj (d : DataW Unit) : Obj → Obj
  | .cells _ t frozen => .cells (lits2 d).toArray t frozen
  | o => o
noncomputable def laidWorld (os : Os) : World :=
  { World.holding Tryd.prog os ⟨#[], #[], []⟩ with heap := laidL.foldl (fun h x => match Tryd.prog.globalNamed x.1 with | some g => h.modify g (laidObj x.2) | none => h) (World.holding Tryd.prog os ⟨#[], #[], []⟩).heap }
end Go.Proofs.YtlhfdedjboanfaaDoor
