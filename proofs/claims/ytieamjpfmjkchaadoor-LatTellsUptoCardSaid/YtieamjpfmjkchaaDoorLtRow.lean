/-
  What the rows of this seat share: the library's variables out of a row's condition; a lattice that came in, opened; the arguments read behind the call; a world for the witness. Condition: the row's own.
-/
import Derived.Test.YtieamjpfmjkchaaDoorLtAt
import Derived.Test.YtieamjpfmjkchaaDoorCards
import Derived.Test.YtieamjpfmjkchaaDoorTie
import Derived.WalkKit
import Derived.ProofKit
import Derived.OpenShut
import Derived.Deep.DeepHandedRow
import Derived.Lib.LaidTab
import Derived.Lib.SmallJoins
import Derived.SliceStrings
import Derived.ChangeSlices
import Derived.Carry
import Derived.Shelf.Vars
namespace Go.Proofs.YtieamjpfmjkchaaDoor
open Go.ChangeShapes Go.WideShapes Go.ChangeAt Go.RowKit Go.Joins Go.Lt

theorem own : ownKnob Tryd.prog.godebug = none := by kernel_rfl
theorem laidOut : laidOutB Tryd.prog = true := by kernel_rfl
theorem gTab : Tryd.prog.globalNamed "math/bits.deBruijn64tab" = some 1 := by kernel_rfl
theorem gTabType : (Tryd.prog.globals[1]?).map (·.type) = some 106 := by kernel_rfl
theorem cTab : Tryd.prog.cellsOf 106 = 64 := by kernel_rfl
theorem cU8 : Tryd.prog.cellsOf 5 = 1 := by kernel_rfl
theorem cU64 : Tryd.prog.cellsOf 50 = 1 := by kernel_rfl
theorem cStr : Tryd.prog.cellsOf 9 = 1 := by kernel_rfl
theorem cLat : Tryd.prog.cellsOf 25 = 2 := by kernel_rfl

/-- the list of every row of this seat -/
def laidL : List (String × DataW Unit) := Rows.latOrderRow.laid
theorem laid_head : laidL = ("math/bits.deBruijn64tab", Lib.tabData .u8 (Lib.deBruijn64tab.map fun n : Nat => (n : Int))) :: laidL.tail := by kernel_rfl
theorem laid_plain : (laidL.filter fun x => x.2.handleName?.isSome) = [] := by kernel_rfl

theorem env_of {W : World} (hL : laidMetH Tryd.prog laidL W) (hS : W.ShapedOpen Tryd.prog) : Env W := by
  have h1 : laidMet Tryd.prog laidL W := by
    unfold laidMetH at hL
    rw [laid_plain] at hL
    exact hL
  rw [laid_head] at h1
  have h2 := Lib.tabIs_of_head gTab gTabType Tryd.underlying106 Tryd.underlying5 cU8 cTab h1
  refine ⟨fun j hj => ?_, ?_, ?_⟩
  · have := h2.cell gTab j (by simpa using hj)
    rw [this]
    simp only [List.getD_eq_getElem?_getD, List.getElem?_map]
    rw [List.getElem?_eq_getElem hj]
    rfl
  · exact cell_of_shapedOpen_int (zero := #[.int .i64 0]) (t := 3) hS (of_decide_eq_true (by kernel_rfl)) (by kernel_rfl) rfl (by kernel_rfl) (by kernel_rfl) Tryd.underlying3
  · have h3 : (((begin Tryd.prog (fun _ _ => 0) default).world.heap[3]?).bind Obj.row?).isSome = true := by kernel_rfl
    obtain ⟨⟨z, t⟩, hz⟩ := Option.isSome_iff_exists.1 h3
    obtain ⟨cs, h, _⟩ := hS.1 3 z t (of_decide_eq_true (by kernel_rfl)) hz
    have := (Array.getElem?_eq_some_iff.1 h).1
    omega

theorem strs_of {W : World} {a : Addr} {ss : List ByteArray} {len : Nat} (hl : len ≤ ss.length) (h : ∀ i, i < ss.length → W.cell? (a.add i) = some (.string (ss.getD i ByteArray.empty))) : Strs W W.heap.size (some a) (ss.take len) := fun hne => by
  have hpos : 0 < len := Nat.pos_of_ne_zero fun e => hne (by rw [e]; rfl)
  have h0 := h 0 (by omega)
  have hb : a.block < W.heap.size := World.block_lt_of_cell? W _ (by simpa [Addr.add] using h0)
  have hs : a.spot = none := by
    simp only [Addr.add, if_pos] at h0
    unfold World.cell? at h0
    cases hc : a.spot with
    | none => rfl
    | some k =>
      rw [hc] at h0
      split at h0 <;> simp at h0
  obtain ⟨b, off, spot⟩ := a
  obtain rfl : spot = none := hs
  refine ⟨b, off, rfl, hb, fun j hj => ?_⟩
  rw [List.length_take] at hj
  have h1 := h j (by omega)
  have e : (ss.take len).getD j ByteArray.empty = ss.getD j ByteArray.empty := by
    rw [List.getD_eq_getElem?_getD, List.getD_eq_getElem?_getD, List.getElem?_take_of_lt (by omega)]
  unfold Lt.nm
  rw [e, ← h1]
  unfold Addr.add
  split
  · rename_i h2; subst h2; rfl
  · rfl
theorem wf_u64 {n : Int} (h : (Lit.int .u64 n).wf = true) : 0 ≤ n ∧ n < 18446744073709551616 := by
  have h1 : (decide ((0 : Int) ≤ n) && decide (n ≤ 18446744073709551615)) = true := h
  rw [Bool.and_eq_true, decide_eq_true_eq, decide_eq_true_eq] at h1
  omega
theorem wf_u8 {n : Int} (h : (Lit.int .u8 n).wf = true) : 0 ≤ n ∧ n < 256 := by
  have h1 : (decide ((0 : Int) ≤ n) && decide (n ≤ 255)) = true := h
  rw [Bool.and_eq_true, decide_eq_true_eq, decide_eq_true_eq] at h1
  omega
theorem words_of {W : World} {a : Addr} {zs : List Int} {len : Nat} (hl : len ≤ zs.length) (h : ∀ i, i < zs.length → W.cell? (a.add i) = some (.int .u64 (zs.getD i 0))) (hw : ∀ n ∈ zs, (Lit.int .u64 n).wf = true) :
    ∃ us : List Nat, us.length = len ∧ W64 us ∧ Words W W.heap.size (some a) us := by
  have hz : ∀ n ∈ zs, 0 ≤ n ∧ n < 18446744073709551616 := fun n hn => by
    exact wf_u64 (hw n hn)
  refine ⟨(zs.take len).map Int.toNat, by simp; omega, W64.of fun u hu => ?_, fun hne => ?_⟩
  · obtain ⟨n, hn, rfl⟩ := List.mem_map.1 hu
    have := hz n (List.mem_of_mem_take hn)
    omega
  · have hpos : 0 < len := Nat.pos_of_ne_zero fun e => hne (by rw [e]; rfl)
    have h0 := h 0 (by omega)
    have hb : a.block < W.heap.size := World.block_lt_of_cell? W _ (by simpa [Addr.add] using h0)
    have hs : a.spot = none := by
      simp only [Addr.add, if_pos] at h0
      unfold World.cell? at h0
      cases hc : a.spot with
      | none => rfl
      | some k =>
        rw [hc] at h0
        split at h0 <;> simp at h0
    obtain ⟨b, off, spot⟩ := a
    obtain rfl : spot = none := hs
    refine ⟨b, off, rfl, hb, fun j hj => ?_⟩
    simp only [List.length_map, List.length_take] at hj
    have h1 := h j (by omega)
    have hj2 : j < zs.length := by omega
    have e : ((Lt.row ((zs.take len).map Int.toNat) j : Nat) : Int) = zs.getD j 0 := by
      unfold Lt.row
      rw [List.getD_eq_getElem?_getD, List.getD_eq_getElem?_getD, List.getElem?_map, List.getElem?_take_of_lt (by omega), List.getElem?_eq_getElem hj2]
      have := hz zs[j] (List.getElem_mem hj2)
      simp only [Option.map_some, Option.getD_some]
      omega
    rw [e, ← h1]
    unfold Addr.add
    split
    · rename_i h2; subst h2; rfl
    · rfl

set_option maxRecDepth 100000 in
/-- A LATTICE THAT CAME IN. -/
theorem open_lat {H : Type} {enc : TypeId × Value → H} {W : World} {base : Nat} {v : Value} {d : DataW H} {p : List MemPlace}
    (hv : Value.okWide Tryd.prog W .any base 25 v) (h : DataW.Trod enc Tryd.prog W 0 (fun _ => true) true 25 v d p) :
    ∃ (A B : Option Addr) (c e : Nat) (ns : List ByteArray) (us : List Nat), v = .agg #[.slice A ns.length c, .slice B us.length e] ∧ LatAt W A B c ns us := by
  obtain ⟨v0, v1, y0, y1, n, rfl, _, _, h0, h1⟩ := open_agg2 Tryd.underlying25 (by kernel_rfl) cLat hv h
  have k0 : ∃ (A : Option Addr) (c : Nat) (ns : List ByteArray), v0 = .slice A ns.length c ∧ Strs W W.heap.size A ns ∧ SMax ns ∧ ns.length ≤ 9223372036854775807 ∧ ns.length ≤ c ∧ c ≤ 9223372036854775807 := by
    rcases open_strings Tryd.underlying22 Tryd.underlying9 cStr h0 with ⟨hc, _⟩ | ⟨a, len, cap, ss, hc, _, hl, hm, hlen, _, hcell, hw⟩
    · obtain rfl := List.cons.inj hc |>.1
      exact ⟨none, 0, [], rfl, Strs.nil _ _ _, fun j => by show (ByteArray.empty).size ≤ 9223372036854775807; decide, by decide, by decide, by decide⟩
    · obtain rfl := List.cons.inj hc |>.1
      simp only [if_true] at hlen
      have hmax : maxLen = 9223372036854775807 := by rfl
      have e : (ss.take len).length = len := by rw [List.length_take]; omega
      refine ⟨some a, cap, ss.take len, by rw [e], strs_of (by omega) hcell, fun j => ?_, by omega, by omega, by omega⟩
      unfold Lt.nm
      rw [List.getD_eq_getElem?_getD]
      cases hj : (ss.take len)[j]? with
      | none => show (ByteArray.empty).size ≤ 9223372036854775807; decide
      | some s =>
        have := hw s (List.mem_of_mem_take (List.mem_of_getElem? hj))
        simp only [Option.getD_some]
        omega
  have k1 : ∃ (B : Option Addr) (e : Nat) (us : List Nat), v1 = .slice B us.length e ∧ Words W W.heap.size B us ∧ W64 us ∧ us.length ≤ 9223372036854775807 := by
    rcases open_ints Tryd.underlying23 Tryd.underlying50 cU64 h1 with ⟨hc, _⟩ | ⟨a, len, cap, zs, hc, _, hl, hm, hlen, _, hcell, hw⟩
    · obtain rfl := List.cons.inj hc |>.1
      exact ⟨none, 0, [], rfl, Words.nil _ _ _, W64.of (by simp), by decide⟩
    · obtain rfl := List.cons.inj hc |>.1
      simp only [if_true] at hlen
      have hmax : maxLen = 9223372036854775807 := by rfl
      obtain ⟨us, hu, h64, hW⟩ := words_of (len := len) (by omega) hcell hw
      exact ⟨some a, cap, us, by rw [hu], hW, h64, by omega⟩
  obtain ⟨A, c, ns, rfl, n1, n2, n3, n4, n5⟩ := k0
  obtain ⟨B, e, us, rfl, u1, u2, u3⟩ := k1
  exact ⟨A, B, c, e, ns, us, rfl, ⟨n1, u1, u2, n2, n3, n4, n5, u3⟩⟩

set_option maxRecDepth 100000 in
/-- A small number that came in. -/
theorem open_u8 {H : Type} {enc : TypeId × Value → H} {W : World} {base : Nat} {v : Value} {d : DataW H} {p : List MemPlace}
    (hv : Value.okWide Tryd.prog W .any base 5 v) (h : DataW.Trod enc Tryd.prog W 0 (fun _ => true) true 5 v d p) : ∃ n : Int, v = .int .u8 n ∧ 0 ≤ n ∧ n < 256 := by
  obtain ⟨n, rfl, _, _, hw⟩ := open_int Tryd.underlying5 hv h
  exact ⟨n, rfl, (wf_u8 hw).1, (wf_u8 hw).2⟩

/-- AN ARGUMENT READS BEHIND THE CALL AS IT DID. -/
theorem same_lat {H : Type} {enc : TypeId × Value → H} {W W' : World} {v : Value} {d : DataW H} {p : List MemPlace} (h : DataW.Trod enc Tryd.prog W 0 (fun _ => true) true 25 v d p) (hb : Below W.heap.size W W') (hlt : ∀ x ∈ p, x.block < W.heap.size) :
    DataW.Trod enc Tryd.prog W' 0 (fun b => decide (b < W.heap.size)) true 25 v d p := Below.trod laidOut (by kernel_rfl) (of_decide_eq_true (by kernel_rfl)) h hb hlt

/-- arguments of types that can be read, read behind the call as they did -/
def rowed (P : Program) (ts : List TypeId) : Bool := ts.all fun t => P.readableRec t && decide (t < P.types.size)
theorem args_same {P : Program} (hl : laidOutB P = true) {H : Type} {enc : TypeId × Value → H} {W W' : World} (hb : Below W.heap.size W W') {sp : Nat → Bool} :
    ∀ {ts : List TypeId} {vs : List Value} {ds : List (DataW H)} {ps : List MemPlace}, rowed P ts = true → DataW.TrodAll enc P W 0 (fun _ => true) true ts vs ds ps → (∀ x ∈ ps, x.block < W.heap.size) → (∀ x ∈ ps, sp x.block = true) → DataW.TrodAll enc P W' 0 sp true ts vs ds ps
  | [], _, _, _, _, h, _, _ => by
    obtain ⟨rfl, rfl, rfl⟩ := trodAll_nil h
    exact trodAll_mk0
  | t :: ts, _, _, _, hr, h, hlt, hsp => by
    obtain ⟨v, vs, d, ds, p, q, rfl, rfl, rfl, h1, h2⟩ := trodAll_cons h
    simp only [rowed, List.all_cons, Bool.and_eq_true, decide_eq_true_eq] at hr
    exact trodAll_cons_mk (WideElems.Trod_stays hl hr.1.1 hr.1.2 h1 (fun x hx => hb.same (hlt x (List.mem_append_left _ hx))) (fun x hx => hsp x (List.mem_append_left _ hx)))
      (args_same hl hb (by simpa [rowed] using hr.2) h2 (fun x hx => hlt x (List.mem_append_right _ hx)) (fun x hx => hsp x (List.mem_append_right _ hx)))
/-- THE POST, where the function answers, and what it reads stays: no variable of the program's own is named. -/
theorem post_same {P : Program} (hl : laidOutB P = true) {H : Type} {enc : TypeId × Value → H} {f : Func} {s : ChangeSpec} {W W' : World} {args : Array Value} {v : Value} {ds : List (DataW H)} {p : List MemPlace}
    (hW : DataW.Whole enc P f.params.toList s.vars false W args.toList ds [] (p ++ [])) (hA : DataW.TrodAll enc P W 0 (fun _ => true) true f.params.toList args.toList ds p)
    (hres : ∀ (b : Nat) (sp : Nat → Bool) (hd : Bool), DataW.TrodAll enc P W' b sp hd f.resultTypes.toList (v.resultList f.resultTypes.size) (s.fn H (ds ++ [])).results [])
    (hargs : (s.fn H (ds ++ [])).args = ds) (hvars : s.vars = [] ∧ (s.fn H (ds ++ [])).vars = []) (hb : Below W.heap.size W W') (hrow : rowed P f.params.toList = true) :
    s.post enc P f false true false false W args v W' := by
  have hlt : ∀ x ∈ p, x.block < W.heap.size := fun x hx => hW.lt x (by simpa using hx)
  refine ⟨ds, [], p ++ [], [], p, [], hW, hres _ _ _, ?_, ?_, hb.frame _, fun h => by cases h⟩
  · rw [hargs]
    exact args_same hl hb hrow hA hlt fun x hx => by simpa using hlt x hx
  · rw [hvars.1, hvars.2]
    exact rfl

/-- A WORLD FOR THE WITNESS: the settled one, the listed variables holding what their initialisers lay. -/
def lits1 : DataW Unit → List Value
  | .lit (.int k n) => [.int k n]
  | .agg l => l.flatMap fun | .lit (.int k n) => [.int k n] | _ => []
  | _ => []
def lits2 : DataW Unit → List Value
  | .agg l => l.flatMap lits1
  | _ => []
def laidObj (d : DataW Unit) : Obj → Obj
  | .cells _ t frozen => .cells (lits2 d).toArray t frozen
  | o => o
noncomputable def laidWorld (os : Os) : World :=
  { World.holding Tryd.prog os ⟨#[], #[], []⟩ with heap := laidL.foldl (fun h x => match Tryd.prog.globalNamed x.1 with | some g => h.modify g (laidObj x.2) | none => h) (World.holding Tryd.prog os ⟨#[], #[], []⟩).heap }
def emptyLat : Value := .agg #[.slice none 0 0, .slice none 0 0]

end Go.Proofs.YtieamjpfmjkchaaDoor
