/-
  SolveTells. Condition: the lattice, the pairs, the Sols can be read, at most 2^20 pairs, 2^20 Sols; the library's table lies as laid.
-/
import Derived.Test.YtlhfdedjboanfaaDoorSvExs
import Derived.Test.YtlhfdedjboanfaaDoorSvRf
import Derived.Laws.StructEq
namespace Go.Proofs.YtlhfdedjboanfaaDoor
open Go.RowKit Go.Shelf Go.At Go.Sv
attribute [local go_sem] Oper.semAt_some

/-- are two pairs one? -/
def samePR (a b c d : Int) : Bool := (a == c) && (b == d)
theorem equalSolR (a b c d : Int) (w : World) : (Op.equalIn 10000 41 (.agg #[.int .i64 a, .int .i64 b]) (.agg #[.int .i64 c, .int .i64 d])).run Tryd.prog w = .ok (samePR a b c d) w := by
  have u3 := Tryd.underlying3
  have a3 := Tryd.isAgg3
  have z3 := Tryd.sizeOf3
  have hS : Tryd.prog.underlying 41 = some (.struct (Tryd.prog.fieldsOf 41)) := by kernel_rfl
  have hp : Tryd.prog.stoodInHeld 41 = false := by kernel_rfl
  show (Op.equalIn (9999 + 1) 41 _ _).run Tryd.prog w = _
  rw [run_equalIn_agg w 9999 41 _ _ hS hp]
  simp only [Program.fieldsOf, Tryd.underlying41]
  go_simp
  by_cases h1 : a = c <;> by_cases h2 : b = d <;> simp [samePR, h1, h2]
theorem eqSolR (a b c d : Int) (w : World) : (binOp .eql 41 (.agg #[.int .i64 a, .int .i64 b]) (.agg #[.int .i64 c, .int .i64 d])).run Tryd.prog w = .ok (.bool (samePR a b c d)) w := by
  rw [run_eql_struct, equalSolR]; rfl
theorem neSolR (a b c d : Int) (w : World) : (binOp .neq 41 (.agg #[.int .i64 a, .int .i64 b]) (.agg #[.int .i64 c, .int .i64 d])).run Tryd.prog w = .ok (.bool (!samePR a b c d)) w := by
  rw [run_neq_struct, equalSolR]; rfl
theorem guardSolR (op : BinOp) (a b : Operand) (x y : Array Value) (w : World) : (eqGuard op 41 a b (.agg x) (.agg y)).run Tryd.prog w = .ok () w := run_eqGuard_agg w op 41 a b x y (by kernel_rfl)
set_option maxRecDepth 100000 in
set_option maxHeartbeats 4000000 in
theorem refSols_any (A : Option Addr) (l : List Pr) (c : Nat) (w : World) (hP : Prs w A l) (hl : l.length ≤ 4194304) :
    Calls Tryd.prog 14 #[.slice A l.length c] w fun e w' => (∃ A c, e = .returned (.slice A l.length c) ∧ Prs w' A l ∧ OkS A l.length c) ∧ Below w.heap.size w w' := by
  obtain ⟨i0, hi, hi2⟩ := Option.map_eq_some_iff.1 info_rsol
  obtain ⟨hz0, hz1, hz2⟩ : i0.zero = some (.agg #[.int .i64 0, .int .i64 0]) ∧ i0.size = 2 ∧ i0.bytes = 16 := by
    injection hi2 with h1 h2; injection h2 with h2 h3; exact ⟨h1, h2, h3⟩
  replace hi := Lib.hid hi
  replace hz0 := Lib.hid hz0
  replace hz1 := Lib.hid hz1
  replace hz2 := Lib.hid hz2
  clear hi2
  obtain ⟨L, hL⟩ : ∃ L, Hid (l.length = L) := ⟨_, rfl⟩
  have hLl := hL.out
  rw [hLl] at hl ⊢
  clear hLl
  go_enter Tryd.func14, Tryd.ntmps14
  go_wp2_with fail
  go_loopw [3, 4] (fun v i wr => ∃ (k : Nat) (v' : Value), k ≤ L ∧ i = .int .i64 k ∧ v = v' ∧ Hid (wr.ownsRow w.heap.size 41 2 v' k (cellsP (l.take k))) ∧ Hid (Below w.heap.size w wr)) (fun _ i _ => L - (intOf i).toNat)
  case atStart => exact ⟨0, _, Nat.zero_le _, rfl, rfl, World.ownsRow_nil _ _ _ _, Below.refl _ _⟩
  case round =>
    obtain ⟨k, v', hk, rfl, rfl, hown, hB⟩ := hrel
    by_cases hlt : k < L
    · have hkl : k < l.length := by rw [hL.out]; exact hlt
      obtain ⟨b, off, rfl, hb, hc⟩ := (hP.later hB.out) (by intro e; subst e; simp at hkl)
      obtain ⟨c0, c1⟩ := hc k hkl
      clear hc
      have htk := take_snoc l (0, 0) k hkl
      generalize l.getD k (0, 0) = q at c0 c1 htk
      obtain ⟨x, y⟩ := q
      dsimp only at c0 c1
      have htn : Hid (cellsP (l.take (k + 1)) = cellsP (l.take k) ++ [.int .i64 x, .int .i64 y]) := by show _ = _; rw [htk, cellsP_append]; rfl
      clear htk
      have hbx := Lib.hid ((Below.refl wr.heap.size wr).drew.alloc (Nat.le_refl _) (.cells #[.int .i64 x, .int .i64 y] 41))
      have hown1 := Lib.hid (own_later hown.out hbx.out)
      have hbs := Lib.hid (Nat.le_trans hB.out.size hbx.out.size)
      clear hown
      go_wp2_with fail
      go_region_law (
        refine step_append_held rfl (.tmp 11) (.tmp 23) 36 rfl w.heap.size 41 i0 (.agg #[.int .i64 0, .int .i64 0]) 2 16 Tryd.underlying36 hi.out hz0.out hz1.out hz2.out rfl (by decide) _ _ _ (by simp [Act.eval]) hown1.out ⟨wr.heap.size, 0, none⟩ 1 1 [.int .i64 x, .int .i64 y] (by simp [Act.eval]) rfl (news_pair wr.drew x y _) (news_pair1 x y) (by unfold maxLen; omega) (by omega) hbs.out ?_
        intro v'' w3 hown' hgrow
        have hown2 : Hid (w3.ownsRow w.heap.size 41 2 v'' (k + 1) (cellsP (l.take (k + 1)))) := by
          show w3.ownsRow _ _ _ _ _ _
          rw [htn.out]
          exact hown'
        have hb3 : Hid (Below w.heap.size w w3) := (hB.out.trans (hbx.out.mono hB.out.size)).grown hgrow hbs.out (own_block hown1.out)
        clear hown' hgrow)
      all_goals
        clear hown1 hbx hbs c0 c1
        go_wp2_with fail
        go_roundw
        case rel => exact ⟨k + 1, v'', by omega, by go_num, rfl, hown2.out, hb3.out⟩
        case measure => simp [intOf]; omega
    · obtain rfl : k = L := by omega
      go_wp2_with fail
      go_ret
      have ho := hown.out
      rw [List.take_of_length_le (by rw [hL.out]; exact Nat.le_refl _), ← hL.out] at ho
      obtain ⟨A5, c5, e5, h5, -⟩ := prs_own ho
      rw [hL.out] at e5
      subst e5
      have hok := own_ok ho
      rw [hL.out] at hok
      exact ⟨⟨A5, c5, rfl, h5, hok⟩, hB.out⟩


/-- there is one least solution, whatever the lattice -/
theorem least_same {ns : List ByteArray} {us : List Nat} {c r r' : List Pr} {ok ok' : Bool} (h64 : L.W64 us) (h : LeastT ns us c r ok) (h' : LeastT ns us c r' ok') : ok = ok' ∧ r = r' := by
  cases hR : L.rightB ns us with
  | true =>
    obtain ⟨J, M, z, t, hT⟩ := L.told_of h64 hR
    exact least_one hT hT.eqn (fun p => Iff.rfl) h h'
  | false =>
    have no : ∀ s, solvesT ns us c s = false := fun s => by
      unfold solvesT knownT
      rw [hR]; rfl
    obtain ⟨h1, h2⟩ := least_no h no
    obtain ⟨h3, h4⟩ := least_no h' no
    exact ⟨h1.trans h3.symm, h2.trans h4.symm⟩
/-- what is known while the two are held against each other -/
structure KS (p p2 : Nat) (A B C C2 D : Option Addr) (c d : Nat) (ns : List ByteArray) (us : List Nat) (l s : List Pr) (W : World) : Prop where
  env : L.Env W
  lat : L.LatAt W A B c ns us
  b1 : L.Box2 W p (.slice A ns.length c) (.slice B us.length d)
  b2 : L.Box2 W p2 (.slice A ns.length c) (.slice B us.length d)
  hC : Prs W C l
  hC2 : Prs W C2 l
  hD : Prs W D s
section
variable {p p2 : Nat} {A B C C2 D : Option Addr} {c d : Nat} {ns : List ByteArray} {us : List Nat} {l s : List Pr} {W : World}
theorem KS.later {W' : World} (h : KS p p2 A B C C2 D c d ns us l s W) (hb : Below W.heap.size W W') : KS p p2 A B C C2 D c d ns us l s W' :=
  ⟨h.env.later hb, h.lat.later hb, h.b1.later hb, h.b2.later hb, h.hC.later hb, h.hC2.later hb, h.hD.later hb⟩
theorem KS.cells (h : KS p p2 A B C C2 D c d ns us l s W) : W.cell? ⟨p, 0, none⟩ = some (.slice A ns.length c) ∧ W.cell? ⟨p, 1, none⟩ = some (.slice B us.length d) ∧ W.cell? ⟨p2, 0, none⟩ = some (.slice A ns.length c) ∧ W.cell? ⟨p2, 1, none⟩ = some (.slice B us.length d) :=
  ⟨h.b1.1, h.b1.2.1, h.b2.1, h.b2.2.1⟩
end

set_option maxRecDepth 100000 in
set_option maxHeartbeats 4000000 in
theorem solveTells_any (A B : Option Addr) (ns0 : List ByteArray) (us0 : List Nat) (c d : Nat) (C : Option Addr) (l : List Pr) (cc : Nat) (D : Option Addr) (s : List Pr) (cd : Nat) (a : Int) (w : World) (hE : L.Env w) (hL : L.LatAt w A B c ns0 us0) (hd : us0.length ≤ d)
    (hP : Prs w C l) (h6 : ∀ p ∈ l, I64 p.1 ∧ I64 p.2) (_ok : OkS C l.length cc) (hl : l.length ≤ 1048576) (hS : Prs w D s) (h6s : ∀ p ∈ s, I64 p.1 ∧ I64 p.2) (oks : OkS D s.length cd) (hsl : s.length ≤ 1048576) (ha : I64 a) :
    Calls Tryd.prog 3 #[.agg #[.slice A ns0.length c, .slice B us0.length d], .slice C l.length cc, .slice D s.length cd, .int .i64 a] w fun e w' => e = .returned (.bool true) ∧ Below w.heap.size w w' := by
  clear _ok
  have hX := Lib.hid (L.At.new (d := d) hE hL)
  have hfz : Hid (∀ w1, Below (w.alloc (.cells #[.slice A ns0.length c, .slice B us0.length d] 25)).heap.size (w.alloc (.cells #[.slice A ns0.length c, .slice B us0.length d] 25)) w1 → w1.frozen? ⟨w.heap.size, 0, none⟩ = false ∧ w1.frozen? ⟨w.heap.size, 1, none⟩ = false) := fun w1 h =>
    ⟨(h.frozen (p := ⟨w.heap.size, 0, none⟩) (by simp)).trans (frozen_of_row _ _ 0 _ _ (World.alloc_heap_new w _)), (h.frozen (p := ⟨w.heap.size, 1, none⟩) (by simp)).trans (frozen_of_row _ _ 1 _ _ (World.alloc_heap_new w _))⟩
  have hnl := hL.nlen
  have hul := hL.ulen
  have hnc := hL.ncap
  have hcc := hL.ccap
  have h4 := hE.four
  have hP0 := Lib.hid hP
  have hS0 := Lib.hid hS
  have hk : Hid (Calls Tryd.prog 9 #[] (w.alloc (.cells #[.slice A ns0.length c, .slice B us0.length d] 25)) fun e w1 => e = .returned (.bool true) ∧ Hid (L.At w w1 w.heap.size A B c d ns0 us0) ∧ w1.frozen? ⟨w.heap.size, 0, none⟩ = false ∧ w1.frozen? ⟨w.heap.size, 1, none⟩ = false) :=
    (examples_any _ hX.out.env).mono fun e w1 ⟨h1, h2⟩ => ⟨h1, hX.out.later h2, hfz.out w1 h2⟩
  clear hE hL hX hfz hP hS
  replace h6 := Lib.hid h6
  replace h6s := Lib.hid h6s
  replace oks := Lib.hid oks
  replace ha := Lib.hid ha
  obtain ⟨Q, hQ⟩ : ∃ Q, l.length = Q := ⟨_, rfl⟩
  obtain ⟨X, hX⟩ : ∃ X, s.length = X := ⟨_, rfl⟩
  rw [hQ] at hl
  rw [hX] at hsl
  rw [hQ, hX]
  replace hQ := Lib.hid hQ
  replace hX := Lib.hid hX
  go_enter Tryd.func3, Tryd.ntmps3
  go_wp2_with fail
  refine hk.out.mono ?_
  rintro e w1 ⟨rfl, hY, f1, f2⟩
  have q1 := hY.out.box.1
  have q2 := hY.out.box.2.1
  clear hk
  have m1 : (min (ns0.length : Int) 12).toNat = (ns0.take 12).length := by rw [List.length_take]; omega
  have m2 : (min (us0.length : Int) 12).toNat = (us0.take 12).length := by rw [List.length_take]; omega
  have g1 : 0 ≤ min (ns0.length : Int) 12 := by omega
  have g2 : min (ns0.length : Int) 12 ≤ c := by omega
  have g3 : 0 ≤ min (us0.length : Int) 12 := by omega
  have g4 : min (us0.length : Int) 12 ≤ d := by omega
  have hZ := Lib.hid (L.at_cut hY.out h4 (min (ns0.length : Int) 12).toNat (min (us0.length : Int) 12).toNat m1 m2)
  replace m1 := Lib.hid m1
  replace m2 := Lib.hid m2
  clear hY
  go_wp2_with fail
  rw [m1.out, m2.out] at hZ ⊢
  generalize (w1.setCell ⟨w.heap.size, 0, none⟩ (.slice A (ns0.take 12).length c)).setCell ⟨w.heap.size, 1, none⟩ (.slice B (us0.take 12).length d) = W1 at hZ ⊢
  generalize hns2 : ns0.take 12 = ns at hZ ⊢
  generalize hus2 : us0.take 12 = us at hZ ⊢
  replace hns2 := Lib.hid hns2
  replace hus2 := Lib.hid hus2
  clear q1 q2 f1 f2 g1 g2 g3 g4 m1 m2
  refine (L.reflat_any A B ns.length us.length c d W1).mono ?_
  rintro e w2 ⟨rfl, hb2⟩
  have hA2 := Lib.hid (hZ.out.later hb2)
  clear hZ hb2
  go_wp2_with fail
  have hA3 := Lib.hid (hA2.out.later (later_alloc w2 (.cells #[.slice A ns.length c, .slice B us.length d] 30)))
  have hB2 := Lib.hid (L.Box2.new w2 (.slice A ns.length c) (.slice B us.length d) 30)
  generalize w2.alloc (.cells #[.slice A ns.length c, .slice B us.length d] 30) = W2 at hA3 hB2 ⊢
  generalize w2.heap.size = p2 at hB2 ⊢
  clear hA2
  have kpr := Lib.hid (refPairs_any C l cc W2 (hP0.out.later hA3.out.below) (by rw [hQ.out]; exact hl))
  rw [hQ.out] at kpr
  refine kpr.out.mono ?_
  rintro e w3 ⟨⟨C2, c2, rfl, hC2, -⟩, hb3⟩
  have K0 : Hid (KS w.heap.size p2 A B C C2 D c d ns us l s w3) := ⟨(hA3.out.later hb3).env, (hA3.out.later hb3).lat, (hA3.out.later hb3).box, hB2.out.later hb3, hP0.out.later (hA3.out.later hb3).below, hC2, hS0.out.later (hA3.out.later hb3).below⟩
  have hW3 := Lib.hid (hA3.out.later hb3).below
  have h64 := Lib.hid K0.out.lat.w64
  have hulen := Lib.hid K0.out.lat.ulen
  clear kpr hA3 hB2 hb3 hC2 hP0 hS0
  have kLe : Hid (∀ W, KS w.heap.size p2 A B C C2 D c d ns us l s W → Calls Tryd.prog 12 #[.agg #[.slice A ns.length c, .slice B us.length d], .slice C l.length cc] W fun e w' => (∃ A' c' r ok, e = .returned (.tuple #[.slice A' r.length c', .bool ok]) ∧ Prs w' A' r ∧ OkS A' r.length c' ∧ (∀ p ∈ r, I64 p.1 ∧ I64 p.2) ∧ LeastT ns us l r ok) ∧ Below W.heap.size W w') := fun W h => least_any A B ns us c d C l cc W h.env h.lat h.hC h6.out (by rw [hQ.out]; exact hl)
  have kLr : Hid (∀ W, KS w.heap.size p2 A B C C2 D c d ns us l s W → Calls Tryd.prog 13 #[.agg #[.slice A ns.length c, .slice B us.length d], .slice C2 l.length c2] W fun e w' => (∃ A' c' r ok, e = .returned (.tuple #[.slice A' r.length c', .bool ok]) ∧ Prs w' A' r ∧ LeastT ns us l r ok) ∧ Below W.heap.size W w') := fun W h => refLeast_any A B ns us c d C2 l c2 W h.env h.lat h.hC2 h6.out (by rw [hQ.out]; exact hl)
  have kKn : Hid (∀ W, KS w.heap.size p2 A B C C2 D c d ns us l s W → Calls Tryd.prog 15 #[.agg #[.slice A ns.length c, .slice B us.length d], .slice C l.length cc] W fun e w' => e = .returned (.bool (knownT ns us l)) ∧ Below W.heap.size W w') := fun W h => knownAll_any A B ns us c d C l cc W h.env h.lat h.hC h6.out (by rw [hQ.out]; omega)
  have kKr : Hid (∀ W, KS w.heap.size p2 A B C C2 D c d ns us l s W → Calls Tryd.prog 16 #[.agg #[.slice A ns.length c, .slice B us.length d], .slice C2 l.length c2] W fun e w' => e = .returned (.bool (knownT ns us l)) ∧ Below W.heap.size W w') := fun W h => refKnown_any A B ns us c d C2 l c2 W h.env h.lat h.hC2 h6.out (by rw [hQ.out]; exact hl)
  have kVa : Hid (∀ W, KS w.heap.size p2 A B C C2 D c d ns us l s W → Calls Tryd.prog 17 #[.agg #[.slice A ns.length c, .slice B us.length d], .slice D s.length cd, .int .i64 a] W fun e w' => e = .returned (.int .i64 (valueT ns us s a)) ∧ Below W.heap.size W w') := fun W h => value_any A B ns us c d D s cd a ha.out W h.env h.lat h.hD (by rw [hX.out]; omega)
  have kRs : Hid (∀ (R : Option Addr) (m : Nat) (t : List Pr) W, Prs W R t → t.length ≤ 4194304 → Calls Tryd.prog 14 #[.slice R t.length m] W fun e w' => (∃ A' c', e = .returned (.slice A' t.length c') ∧ Prs w' A' t) ∧ Below W.heap.size W w') := fun R m t W h ht => (refSols_any R t m W h ht).mono fun e w' h => ⟨⟨h.1.choose, h.1.choose_spec.choose, h.1.choose_spec.choose_spec.1, h.1.choose_spec.choose_spec.2.1⟩, h.2⟩
  have kVr : Hid (∀ (R : Option Addr) (m : Nat) W, KS w.heap.size p2 A B C C2 D c d ns us l s W → Prs W R s → Calls Tryd.prog 18 #[.agg #[.slice A ns.length c, .slice B us.length d], .slice R s.length m, .int .i64 a] W fun e w' => e = .returned (.int .i64 (valueT ns us s a)) ∧ Below W.heap.size W w') := fun R m W h hR => refValue_any A B ns us c d R s m a ha.out W h.env h.lat hR (by rw [hX.out]; omega)
  have kSo : Hid (∀ W, KS w.heap.size p2 A B C C2 D c d ns us l s W → Calls Tryd.prog 19 #[.agg #[.slice A ns.length c, .slice B us.length d], .slice C l.length cc, .slice D s.length cd] W fun e w' => e = .returned (.bool (solvesT ns us l s)) ∧ Below W.heap.size W w') := fun W h => solves_any A B ns us c d C l cc D s cd W h.env h.lat h.hC h6.out (by rw [hQ.out]; omega) h.hD h6s.out oks.out (by rw [hX.out]; omega)
  have kSr : Hid (∀ (R : Option Addr) (m : Nat) W, KS w.heap.size p2 A B C C2 D c d ns us l s W → Prs W R s → Calls Tryd.prog 20 #[.agg #[.slice A ns.length c, .slice B us.length d], .slice C2 l.length c2, .slice R s.length m] W fun e w' => e = .returned (.bool (solvesT ns us l s)) ∧ Below W.heap.size W w') := fun R m W h hR => refSolves_any A B ns us c d C2 l c2 R s m W h.env h.lat h.hC2 h6.out (by rw [hQ.out]; exact hl) hR (by rw [hX.out]; omega)
  have kRx := Lib.hid (fun (R : Option Addr) (m : Nat) (W : World) (h : Prs W R s) => kRs.out R m s W h (by rw [hX.out]; omega))
  rw [hQ.out] at kLe kLr kKn kKr kSo kSr
  rw [hX.out] at kVa kVr kSo kSr kRx
  generalize knownT ns us l = kn0 at kKn kKr
  generalize valueT ns us s a = va at kVa kVr
  generalize solvesT ns us l s = so at kSo kSr
  obtain ⟨q1, q2, q3, q4⟩ := K0.out.cells
  go_wp2_with fail
  refine (kLe.out w3 K0.out).mono ?_
  rintro e w4 ⟨⟨R1, r1, r, ok, rfl, hR1, -, -, hLT⟩, hb4⟩
  have K1 := Lib.hid (K0.out.later hb4)
  have hB4 := Lib.hid (below_on hW3.out hb4)
  replace hR1 := Lib.hid hR1
  replace hLT := Lib.hid hLT
  clear hb4 kLe q1 q2 q3 q4 K0
  obtain ⟨q1, q2, q3, q4⟩ := K1.out.cells
  go_wp2_with fail
  refine (kLr.out w4 K1.out).mono ?_
  rintro e w5 ⟨⟨R2, r2, r', ok', rfl, hR2, hLT2⟩, hb5⟩
  obtain ⟨rfl, rfl⟩ := least_same h64.out hLT.out hLT2
  have K2 := Lib.hid (K1.out.later hb5)
  have hB5 := Lib.hid (below_on hB4.out hb5)
  have hR15 := Lib.hid (hR1.out.later hb5)
  replace hR2 := Lib.hid hR2
  clear hb5 kLr q1 q2 q3 q4 K1 hLT2 hR1
  have hrl : r.length ≤ 2097152 := by
    cases ok with
    | false => rw [(hLT.out.no rfl).1]; decide
    | true =>
      have h1 := ord_len (lt := ltI) ((atomsL l).flatMap pickV)
      have h2 := pick_len pickV_len (atomsL l)
      rw [atoms_len, hQ.out] at h2
      have h3 : (r.map (·.1)).length = (varsL l).length := by rw [(hLT.out.yes rfl).1]
      rw [List.length_map] at h3
      unfold varsL at h3
      omega
  have k3 := Lib.hid (kRs.out R1 r1 r w5 hR15.out (by omega))
  obtain ⟨n, hn⟩ : ∃ n, r.length = n := ⟨_, rfl⟩
  rw [hn] at hrl k3 ⊢
  replace hn := Lib.hid hn
  replace hLT := Lib.hid hLT
  go_wp2_with fail
  refine k3.out.mono ?_
  rintro e w6 ⟨⟨Z, z, rfl, hZ⟩, hb6⟩
  have K3 := Lib.hid (K2.out.later hb6)
  have hB6 := Lib.hid (below_on hB5.out hb6)
  have hR26 := Lib.hid (hR2.out.later hb6)
  replace hZ := Lib.hid hZ
  clear hb6 K2 hR2 hR15 k3 kRs
  have hokk : (ok != ok) = false := by cases ok <;> rfl
  have hokk2 : (ok == ok) = true := by cases ok <;> rfl
  go_wp2_with fail
  go_loopw [17] (fun i W => ∃ j : Nat, j ≤ n ∧ i = .int .i64 j ∧ Hid (Below w6.heap.size w6 W)) (fun i _ => n - (intOf i).toNat)
  case atStart => exact ⟨0, Nat.zero_le _, rfl, Below.refl _ _⟩
  case round =>
    obtain ⟨j, hj, rfl, hB⟩ := hrel
    by_cases hlt2 : j < n
    · have hjr : j < r.length := by rw [hn.out]; exact hlt2
      obtain ⟨ba, oa, rfl, -, ra⟩ := (hZ.out.later hB.out) (by intro e; subst e; simp at hjr)
      obtain ⟨bb, ob, rfl, -, rb⟩ := (hR26.out.later hB.out) (by intro e; subst e; simp at hjr)
      obtain ⟨c0, c1⟩ := ra j hjr
      obtain ⟨e0, e1⟩ := rb j hjr
      clear ra rb
      generalize r.getD j (0, 0) = x at c0 c1 e0 e1
      obtain ⟨x0, x1⟩ := x
      dsimp only at c0 c1 e0 e1
      have hs : samePR x0 x1 x0 x1 = true := by simp [samePR]
      have heq : ∀ w, Sem.run Tryd.prog (binOp .neq 41 (.agg #[.int .i64 x0, .int .i64 x1]) (.agg #[.int .i64 x0, .int .i64 x1])) w = .ok (.bool (!samePR x0 x1 x0 x1)) w := neSolR x0 x1 x0 x1
      have hgd : ∀ (op : BinOp) (a b : Operand) w, Sem.run Tryd.prog (eqGuard op 41 a b (.agg #[.int .i64 x0, .int .i64 x1]) (.agg #[.int .i64 x0, .int .i64 x1])) w = .ok () w := fun op a b w => guardSolR op a b _ _ w
      rw [hs] at heq
      simp only [Bool.not_true] at heq
      replace hs := Lib.hid hs
      have hji : ((j : Nat) : Int) < ((n : Nat) : Int) := by omega
      have hjd : decide (((j : Nat) : Int) < ((n : Nat) : Int)) = true := decide_eq_true hji
      go_wp2_with fail
      go_region_held3 (fun W => W.cell? ⟨ba, oa + j * 2, none⟩ = some (.int .i64 x0) ∧ W.cell? ⟨ba, oa + j * 2 + 1, none⟩ = some (.int .i64 x1) ∧ W.cell? ⟨bb, ob + j * 2, none⟩ = some (.int .i64 x0) ∧ W.cell? ⟨bb, ob + j * 2 + 1, none⟩ = some (.int .i64 x1)) (exact ⟨c0, c1, e0, e1⟩) (fail)
      all_goals
        go_wp2_with fail
        go_roundw
        case rel => exact ⟨j + 1, by omega, by go_num, hB.out.drew⟩
        case measure => simp [intOf]; omega
    · obtain rfl : j = n := by omega
      have K := Lib.hid (K3.out.later hB.out)
      have hG : Hid (Below wr.heap.size wr wr) := Below.refl _ _
      have q := K.out.cells
      have hvv : (va == va) = true := by simp
      have hkk : (kn0 == kn0) = true := by cases kn0 <;> rfl
      have hss : (so == so) = true := by cases so <;> rfl
      clear K3 hZ hR26
      go_wp2_with fail
      have hO := K
      clear K
      have K := Lib.hid (hO.out.later (Below.refl wr.heap.size wr).drew)
      replace hG : Hid (Below wr.heap.size wr wr.drew) := (Below.refl _ _).drew
      clear hO
      replace q := K.out.cells
      go_region_held3 (fun W => W.cell? ⟨w.heap.size, 0, none⟩ = some (.slice A ns.length c) ∧ W.cell? ⟨w.heap.size, 1, none⟩ = some (.slice B us.length d) ∧ W.cell? ⟨p2, 0, none⟩ = some (.slice A ns.length c) ∧ W.cell? ⟨p2, 1, none⟩ = some (.slice B us.length d)) (exact K.out.cells)
        (first
          | (go_at_call 15; refine (kKn.out _ K.out).mono ?_; rintro e w9 ⟨rfl, hb⟩; have hO := K; clear K; have K := Lib.hid (hO.out.later hb); clear hO; have hg := hG; clear hG; have hG := Lib.hid (below_on hg.out hb); clear hg; try (replace hD2 := Lib.hid (hD2.out.later hb)); clear hb)
          | (go_at_call 16; refine (kKr.out _ K.out).mono ?_; rintro e w9 ⟨rfl, hb⟩; have hO := K; clear K; have K := Lib.hid (hO.out.later hb); clear hO; have hg := hG; clear hG; have hG := Lib.hid (below_on hg.out hb); clear hg; try (replace hD2 := Lib.hid (hD2.out.later hb)); clear hb)
          | (go_at_call 17; refine (kVa.out _ K.out).mono ?_; rintro e w9 ⟨rfl, hb⟩; have hO := K; clear K; have K := Lib.hid (hO.out.later hb); clear hO; have hg := hG; clear hG; have hG := Lib.hid (below_on hg.out hb); clear hg; try (replace hD2 := Lib.hid (hD2.out.later hb)); clear hb)
          | (go_at_call 14; refine (kRx.out D cd _ K.out.hD).mono ?_; rintro e w9 ⟨⟨D2, d2, rfl, hD2'⟩, hb⟩; have hD2 := Lib.hid hD2'; clear hD2'; have hO := K; clear K; have K := Lib.hid (hO.out.later hb); clear hO; have hg := hG; clear hG; have hG := Lib.hid (below_on hg.out hb); clear hg; clear hb)
          | (go_at_call 18; refine (kVr.out D2 d2 _ K.out hD2.out).mono ?_; rintro e w9 ⟨rfl, hb⟩; have hO := K; clear K; have K := Lib.hid (hO.out.later hb); clear hO; have hg := hG; clear hG; have hG := Lib.hid (below_on hg.out hb); clear hg; try (replace hD2 := Lib.hid (hD2.out.later hb)); clear hb)
          | (go_at_call 19; refine (kSo.out _ K.out).mono ?_; rintro e w9 ⟨rfl, hb⟩; have hO := K; clear K; have K := Lib.hid (hO.out.later hb); clear hO; have hg := hG; clear hG; have hG := Lib.hid (below_on hg.out hb); clear hg; try (replace hD2 := Lib.hid (hD2.out.later hb)); clear hb)
          | (go_at_call 20; refine (kSr.out D2 d2 _ K.out hD2.out).mono ?_; rintro e w9 ⟨rfl, hb⟩; have hO := K; clear K; have K := Lib.hid (hO.out.later hb); clear hO; have hg := hG; clear hG; have hG := Lib.hid (below_on hg.out hb); clear hg; try (replace hD2 := Lib.hid (hD2.out.later hb)); clear hb))
      all_goals
        go_wp2_with fail
        go_ret
        exact ⟨rfl, below_on hB6.out (below_on hB.out hG.out)⟩
end Go.Proofs.YtlhfdedjboanfaaDoor
