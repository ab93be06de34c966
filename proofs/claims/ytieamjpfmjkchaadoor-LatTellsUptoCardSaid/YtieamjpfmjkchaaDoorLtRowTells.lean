/-
  LatTells's card (second form): for every lattice, two points, a name and a text whose bulk is at most 1048576 the statement's function answers true, and its arguments read as they did. Conditions: the row's own (the listed variables lie as laid).
-/
import Derived.Test.YtieamjpfmjkchaaDoorLtRow
import Derived.Test.YtieamjpfmjkchaaDoorLtLawTells
import Derived.ChangeMaps5
namespace Go.Proofs.YtieamjpfmjkchaaDoor.latTells
open Go.ChangeShapes Go.WideShapes Go.ChangeAt Go.ChangeMaps Go.RowKit Go.Joins Go.Lt

set_option maxRecDepth 100000 in
/-- A LATTICE THAT CAME IN. -/
theorem open_lat2 {H : Type} {enc : TypeId × Value → H} {W : World} {base : Nat} {v : Value} {d : DataW H} {p : List MemPlace}
    (hv : Value.okWide Tryd.prog W .any base 25 v) (h : DataW.Trod enc Tryd.prog W 0 (fun _ => true) true 25 v d p) :
    ∃ (A B : Option Addr) (c e : Nat) (ns : List ByteArray) (us : List Nat), v = .agg #[.slice A ns.length c, .slice B us.length e] ∧ LatAt W A B c ns us ∧ us.length ≤ e := by
  obtain ⟨v0, v1, y0, y1, n, rfl, _, _, h0, h1⟩ := open_agg2 Tryd.underlying25 (by kernel_rfl) cLat hv h
  have k0 : ∃ (A : Option Addr) (c : Nat) (ns : List ByteArray), v0 = .slice A ns.length c ∧ Strs W W.heap.size A ns ∧ SMax ns ∧ ns.length ≤ 9223372036854775807 ∧ ns.length ≤ c ∧ c ≤ 9223372036854775807 := by
    rcases open_strings Tryd.underlying22 Tryd.underlying9 cStr h0 with ⟨hc, _⟩ | ⟨a, len, cap, ss, hc, _, hl, hm, hlen, _, hcell, hw⟩
    · obtain rfl := List.cons.inj hc |>.1
      exact ⟨none, 0, [], rfl, Strs.nil _ _ _, fun j => by show (ByteArray.empty).size ≤ 9223372036854775807; decide, by decide, by decide, by decide⟩
    · obtain rfl := List.cons.inj hc |>.1
      simp only [if_true] at hlen
      have hmax : maxLen = 9223372036854775807 := by rfl
      have e : (ss.take len).length = len := by rw [List.length_take]; omega
      refine ⟨some a, cap, ss.take len, by rw [e], strs_of (by omega) hcell, fun j => ?_, by omega, by omega, by omega⟩
      unfold Lt.nm
      rw [List.getD_eq_getElem?_getD]
      cases hj : (ss.take len)[j]? with
      | none => show (ByteArray.empty).size ≤ 9223372036854775807; decide
      | some s =>
        have := hw s (List.mem_of_mem_take (List.mem_of_getElem? hj))
        simp only [Option.getD_some]
        omega
  have k1 : ∃ (B : Option Addr) (e : Nat) (us : List Nat), v1 = .slice B us.length e ∧ Words W W.heap.size B us ∧ W64 us ∧ us.length ≤ 9223372036854775807 ∧ us.length ≤ e := by
    rcases open_ints Tryd.underlying23 Tryd.underlying50 cU64 h1 with ⟨hc, _⟩ | ⟨a, len, cap, zs, hc, _, hl, hm, hlen, _, hcell, hw⟩
    · obtain rfl := List.cons.inj hc |>.1
      exact ⟨none, 0, [], rfl, Words.nil _ _ _, W64.of (by simp), by decide, by decide⟩
    · obtain rfl := List.cons.inj hc |>.1
      simp only [if_true] at hlen
      have hmax : maxLen = 9223372036854775807 := by rfl
      obtain ⟨us, hu, h64, hW⟩ := words_of (len := len) (by omega) hcell hw
      exact ⟨some a, cap, us, by rw [hu], hW, h64, by omega, by omega⟩
  obtain ⟨A, c, ns, rfl, n1, n2, n3, n4, n5⟩ := k0
  obtain ⟨B, e, us, rfl, u1, u2, u3, u4⟩ := k1
  exact ⟨A, B, c, e, ns, us, rfl, ⟨n1, u1, u2, n2, n3, n4, n5, u3⟩, u4⟩


set_option maxRecDepth 100000 in
theorem contract (H : Type) (enc : TypeId × Value → H) (W : World) (base : Nat) (args : Array Value) (ds gs : List (DataW H)) (before : List MemPlace)
    (hval : ∀ (j : Nat) t v, Tryd.f3.params[j]? = some t → args[j]? = some v → Value.okWide Tryd.prog W .any base t v)
    (hW : DataW.Whole enc Tryd.prog Tryd.f3.params.toList Rows.latTellsSpec.vars false W args.toList ds gs before) (hL : laidMetH Tryd.prog Rows.latTellsUptoRow.laid W) (hS : W.ShapedOpen Tryd.prog) (hk : Rows.uptoSmall H (ds ++ gs) = true) :
    Calls Tryd.prog 3 args W fun e W' => ∃ v, e = .returned v ∧ Rows.latTellsSpec.post enc Tryd.prog Tryd.f3 false true false false W args v W' := by
  have hE := env_of hL hS
  have hW' := hW
  obtain ⟨p, q, hA0, hV, rfl, hfz, hnd⟩ := hW
  have hA : DataW.TrodAll enc Tryd.prog W 0 (fun _ => true) true Tryd.f3.params.toList args.toList ds p := hA0
  rw [Tryd.params3] at hA hval
  obtain ⟨v0, vs0, d0, ds0, p0, q0, hargs0, rfl, rfl, h0, r0⟩ := trodAll_cons hA
  obtain ⟨v1, vs1, d1, ds1, p1, q1, hargs1, rfl, rfl, h1, r1⟩ := trodAll_cons r0
  obtain ⟨v2, vs2, d2, ds2, p2, q2, hargs2, rfl, rfl, h2, r2⟩ := trodAll_cons r1
  obtain ⟨v3, vs3, d3, ds3, p3, q3, hargs3, rfl, rfl, h3, r3⟩ := trodAll_cons r2
  obtain ⟨v4, vs4, d4, ds4, p4, q4, hargs4, rfl, rfl, h4, r4⟩ := trodAll_cons r3
  obtain ⟨rfl, rfl, rfl⟩ := trodAll_nil r4
  obtain rfl : args = #[v0, v1, v2, v3, v4] := by cases args; simp_all
  obtain ⟨rfl, rfl⟩ := trodVars_none hV
  obtain ⟨A, B, c, d, ns, us, rfl, hLat, hdl⟩ := open_lat2 (hval 0 25 v0 rfl rfl) h0
  obtain ⟨a1, rfl, _, _, l1⟩ := open_int Tryd.underlying3 (hval 1 3 v1 rfl rfl) h1
  obtain ⟨a2, rfl, _, _, l2⟩ := open_int Tryd.underlying3 (hval 2 3 v2 rfl rfl) h2
  obtain ⟨name, rfl, rfl, _, hn⟩ := open_string Tryd.underlying9 (hval 3 9 v3 rfl rfl) h3
  obtain ⟨text, rfl, rfl, _, hx⟩ := open_string Tryd.underlying9 (hval 4 9 v4 rfl rfl) h4
  have ht : text.size < 4294967281 := by
    have h9 : Rows.uptoBulkAll ([d0, d1, d2, .lit (.string name.data.toList), .lit (.string text.data.toList)] ++ []) ≤ 1048576 := by simpa [Rows.uptoSmall] using hk
    simp only [List.append_nil, Rows.uptoBulkAll, Rows.uptoBulk] at h9
    have : text.data.toList.length = text.size := by simp
    omega
  refine (latTells_any A B ns us c d a1 a2 name text W hE hLat hdl hn ht).mono fun e W' ⟨he, hb⟩ => ?_
  subst he
  refine ⟨_, rfl, ?_⟩
  exact post_same laidOut hW' hA0 (fun _ _ _ => trodAll_cons_mk (shut_bool Tryd.underlying4 _) trodAll_mk0) rfl ⟨rfl, rfl⟩ hb (by kernel_rfl)

set_option maxRecDepth 100000 in
theorem laid_met (os : Os) : laidMet Tryd.prog Rows.latTellsUptoRow.laid ((laidWorld os).forCall (fun _ _ => 0) ⟨#[], #[emptyLat, .int .i64 0, .int .i64 0, .string ⟨#[]⟩, .string ⟨#[]⟩], []⟩).memory :=
  laidMet_of_run' 8 (by kernel_rfl) (by kernel_rfl)
theorem reads (os : Os) {H : Type} (enc : TypeId × Value → H) : ∃ places, DataW.whole enc Tryd.prog ((laidWorld os).forCall (fun _ _ => 0) ⟨#[], #[emptyLat, .int .i64 0, .int .i64 0, .string ⟨#[]⟩, .string ⟨#[]⟩], []⟩).memory Tryd.f3.params.toList Rows.latTellsSpec.vars false #[emptyLat, .int .i64 0, .int .i64 0, .string ⟨#[]⟩, .string ⟨#[]⟩].toList 8 = some ([.agg [.nil, .nil], .lit (.int .i64 0), .lit (.int .i64 0), .lit (.string []), .lit (.string [])], [], places) :=
  ⟨[], by kernel_rfl⟩

set_option maxRecDepth 100000 in
theorem lifted (os : Os) (started : os.Started) (H : Type) (enc : TypeId × Value → H) (F : Stop.Interp) :
    ReturnsInHanded {} Tryd.checked os 3 .any ((Rows.OpenSpec.upto Rows.latTellsSpec).preRow enc Tryd.prog Tryd.f3 Rows.latTellsUptoRow.domain false Rows.latTellsUptoRow.laid) (((Rows.OpenSpec.upto Rows.latTellsSpec).at F).post enc Tryd.prog Tryd.f3 false true false false) := by
  obtain ⟨places, hx⟩ := reads os enc
  refine returnsInHanded_of_row (C := Tryd.checked) (s := Rows.OpenSpec.upto Rows.latTellsSpec) own started (by kernel_rfl) Tryd.func3
    (witness_row_at (enc := enc) (C := Tryd.checked) false (laidWorld os) #[emptyLat, .int .i64 0, .int .i64 0, .string ⟨#[]⟩, .string ⟨#[]⟩] rfl (by kernel_rfl) (by kernel_rfl) (by kernel_rfl)
      (OpenSpec.preRow_of_cond 8 hx (by kernel_rfl) (fun k hk => by cases hk; kernel_rfl) (by kernel_rfl) (laid_met os))) ?_
  intro W base args ds gs before hval hW _ hcond _ hL hS _
  exact contract H enc W base args ds gs before hval hW hL hS (hcond _ rfl)

theorem said : Rows.LatTellsUptoSaid :=
  OpenClaim.holds_of_cond 3 Tryd.f3 rfl rfl rfl rfl rfl rfl rfl ⟨rfl, rfl, rfl, rfl, rfl⟩ rfl rfl rfl rfl rfl (by kernel_rfl) Tryd.func3 (by kernel_rfl)
    (of_decide_eq_true (by kernel_rfl)) (by unfold Func.isWrapper; first | (rw [if_pos (by decide +kernel)]; kernel_rfl) | (rw [if_neg (by decide +kernel)]; exact ⟨rfl, rfl⟩))
    (fun os started H enc _ F => by rw [OpenClaim.pre_eq_preRow]; exact lifted os started H enc F)

/-- No parameter wants a stand-in; the program's own looks are off: what the card asks. -/
theorem plain (f : FuncId) (fn : Func) (hf : Tryd.pinned.checked.prog.funcNamed "chancel/chancellaw01.LatTells" = some f) (hfn : Tryd.pinned.checked.prog.funcs[f]? = some fn) :
    false = Tryd.pinned.checked.prog.looks [] ∧ ∀ (j : Nat) t, fn.params[j]? = some t → Tryd.pinned.checked.prog.wantsStandIn t = false := by
  obtain rfl : f = 3 := Option.some.inj ((show Tryd.prog.funcNamed "chancel/chancellaw01.LatTells" = some 3 by kernel_rfl).symm.trans hf) |>.symm
  obtain rfl : fn = Tryd.f3 := (Option.some.inj (Tryd.func3.symm.trans hfn)).symm
  refine ⟨by kernel_rfl, fun j t ht => ?_⟩
  rw [Tryd.params3] at ht
  have hm : t = 25 ∨ t = 3 ∨ t = 3 ∨ t = 9 ∨ t = 9 := by simpa using Array.mem_of_getElem? ht
  rcases hm with rfl | rfl | rfl | rfl | rfl
  · exact (show Tryd.prog.wantsStandIn 25 = false by kernel_rfl)
  · exact (show Tryd.prog.wantsStandIn 3 = false by kernel_rfl)
  · exact (show Tryd.prog.wantsStandIn 3 = false by kernel_rfl)
  · exact (show Tryd.prog.wantsStandIn 9 = false by kernel_rfl)
  · exact (show Tryd.prog.wantsStandIn 9 = false by kernel_rfl)

theorem card : Rows.LatTellsUptoCardSaid :=
  Claim7.holds_tied_plain_at .later [] _ _ _ _ said (fun _ h => by cases h) (by kernel_rfl) (fun _ h => by cases h) latTellsUpto_row_tie rfl ⟨rfl, rfl⟩ (by kernel_rfl) rfl plain (by kernel_rfl)
end Go.Proofs.YtieamjpfmjkchaaDoor.latTells
