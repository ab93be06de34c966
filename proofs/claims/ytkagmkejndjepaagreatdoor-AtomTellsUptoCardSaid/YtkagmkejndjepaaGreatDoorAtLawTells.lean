/-
  AtomTells. Condition: the pairs, the atoms, the texts can be read, at most 2^20 of each, no text longer; the numbers are of 64 bits; the library's table lies as laid.
-/
import Derived.Test.YtkagmkejndjepaaGreatDoorAtEx
import Derived.Test.YtkagmkejndjepaaGreatDoorAtTexts
import Derived.Test.YtkagmkejndjepaaGreatDoorAtRf3
import Derived.Test.YtkagmkejndjepaaGreatDoorAtRf5
import Derived.Test.YtkagmkejndjepaaGreatDoorAtRf7
import Derived.Test.YtkagmkejndjepaaGreatDoorAtRf8
namespace Go.Proofs.YtkagmkejndjepaaGreatDoor
open Go.RowKit Go.Shelf Go.At
attribute [local go_sem] Oper.semAt_some

/-- what came in lies as it lay -/
def KT (A F T S : Option Addr) (l : List Pr) (ft tt : List Int) (ns : List ByteArray) (W : World) : Prop := Env W ∧ Prs W A l ∧ Nms W F ft ∧ Nms W T tt ∧ Strs W S ns
theorem KT.later {A F T S : Option Addr} {l : List Pr} {ft tt : List Int} {ns : List ByteArray} {W W' : World} (h : KT A F T S l ft tt ns W) (hb : Below W.heap.size W W') : KT A F T S l ft tt ns W' :=
  ⟨h.1.later hb, h.2.1.later hb, h.2.2.1.later hb, h.2.2.2.1.later hb, h.2.2.2.2.later hb⟩
theorem varsL_len (l : List Pr) : (varsL l).length ≤ 2 * l.length := by
  have h1 := ord_len (lt := ltI) ((atomsL l).flatMap pickV)
  have h2 := pick_len pickV_len (atomsL l)
  rw [atoms_len] at h2
  unfold varsL
  omega
theorem pointsL_len (l : List Pr) : (pointsL l).length ≤ 2 * l.length := by
  have h1 := ord_len (lt := ltI) ((atomsL l).flatMap pickP)
  have h2 := pick_len pickP_len (atomsL l)
  rw [atoms_len] at h2
  unfold pointsL
  omega
theorem mapL_len (f : Int → Int) (l : List Pr) : (mapL f l).length = l.length := by unfold mapL; rw [List.length_map]
set_option maxRecDepth 100000 in
set_option maxHeartbeats 4000000 in
theorem atomTells_any (A : Option Addr) (l : List Pr) (c : Nat) (F : Option Addr) (ft : List Int) (cf : Nat) (T : Option Addr) (tt : List Int) (ct : Nat) (a n : Int) (S : Option Addr) (ns : List ByteArray) (cs : Nat) (w : World) (hE : Env w)
    (hP : Prs w A l) (h6 : ∀ p ∈ l, I64 p.1 ∧ I64 p.2) (_ok : OkS A l.length c) (hl : l.length ≤ 1048576)
    (hF : Nms w F ft) (hf6 : ∀ x ∈ ft, I64 x) (okF : OkS F ft.length cf) (hfl : ft.length ≤ 1048576)
    (hT : Nms w T tt) (ht6 : ∀ x ∈ tt, I64 x) (_okT : OkS T tt.length ct) (htl : tt.length ≤ 1048576)
    (ha : I64 a) (hn : I64 n) (hS : Strs w S ns) (hs : ∀ x ∈ ns, x.size ≤ 1048576) :
    Calls Tryz.prog 3 #[.slice A l.length c, .slice F ft.length cf, .slice T tt.length ct, .int .i64 a, .int .i64 n, .slice S ns.length cs] w fun e w' => e = .returned (.bool true) ∧ Below w.heap.size w w' := by
  have kx := Lib.hid (examples_any w hE)
  have K0 : Hid (KT A F T S l ft tt ns w) := ⟨hE, hP, hF, hT, hS⟩
  have hvl := varsL_len l
  have hpl := pointsL_len l
  have hnl := norm_len l
  have k1 : Hid (∀ W, KT A F T S l ft tt ns W → Calls Tryz.prog 10 #[.slice A l.length c] W fun e w' => (∃ A' c', e = .returned (.slice A' l.length c') ∧ Prs w' A' l) ∧ Below W.heap.size W w') :=
    fun W h => (refPairs_any A l c W h.2.1 hl).mono fun e w' ⟨⟨A', c', he, hq, _⟩, hb⟩ => ⟨⟨A', c', he, hq⟩, hb⟩
  have k2 : Hid (∀ W, KT A F T S l ft tt ns W → Calls Tryz.prog 12 #[.slice A l.length c] W fun e w' => (∃ A' c', e = .returned (.slice A' (varsL l).length c') ∧ Nms w' A' (varsL l)) ∧ Below W.heap.size W w') :=
    fun W h => (vars_any A l c W h.2.1 h6 (by omega)).mono fun e w' ⟨⟨A', c', he, hq, _⟩, hb⟩ => ⟨⟨A', c', he, hq⟩, hb⟩
  have k3 : Hid (∀ (B : Option Addr) (d : Nat) W, Nms W B (varsL l) → Calls Tryz.prog 11 #[.slice B (varsL l).length d] W fun e w' => (∃ A' c', e = .returned (.slice A' (varsL l).length c') ∧ Nms w' A' (varsL l)) ∧ Below W.heap.size W w') :=
    fun B d W h => (refAtoms_any B (varsL l) d W h (by omega)).mono fun e w' ⟨⟨A', c', he, hq, _⟩, hb⟩ => ⟨⟨A', c', he, hq⟩, hb⟩
  have k4 : Hid (∀ (B : Option Addr) (d : Nat) W, Prs W B l → Calls Tryz.prog 13 #[.slice B l.length d] W fun e w' => (∃ A' c', e = .returned (.slice A' (varsL l).length c') ∧ Nms w' A' (varsL l)) ∧ Below W.heap.size W w') :=
    fun B d W h => refVars_any B l d W h h6 hl
  have k5 : Hid (∀ W, KT A F T S l ft tt ns W → Calls Tryz.prog 14 #[.slice A l.length c] W fun e w' => (∃ A' c', e = .returned (.slice A' (pointsL l).length c') ∧ Nms w' A' (pointsL l)) ∧ Below W.heap.size W w') :=
    fun W h => (points_any A l c W h.2.1 h6 (by omega)).mono fun e w' ⟨⟨A', c', he, hq, _⟩, hb⟩ => ⟨⟨A', c', he, hq⟩, hb⟩
  have k6 : Hid (∀ (B : Option Addr) (d : Nat) W, Prs W B l → Calls Tryz.prog 15 #[.slice B l.length d] W fun e w' => (∃ A' c', e = .returned (.slice A' (pointsL l).length c') ∧ Nms w' A' (pointsL l)) ∧ Below W.heap.size W w') :=
    fun B d W h => refPoints_any B l d W h h6 hl
  have k7 : Hid (∀ W, KT A F T S l ft tt ns W → Calls Tryz.prog 17 #[.slice A l.length c] W fun e w' => (∃ A' c', e = .returned (.slice A' (normL l).length c') ∧ Prs w' A' (normL l)) ∧ Below W.heap.size W w') :=
    fun W h => norm_any A l c W h.2.1 (by omega)
  have k8 : Hid (∀ (B : Option Addr) (d : Nat) W, Prs W B l → Calls Tryz.prog 18 #[.slice B l.length d] W fun e w' => (∃ A' c', e = .returned (.slice A' (normL l).length c') ∧ Prs w' A' (normL l)) ∧ Below W.heap.size W w') :=
    fun B d W h => refNorm_any B l d W h hl
  have kS : Hid (∀ (B D : Option Addr) (m : List Pr) (p q : Nat) W, Prs W B m → Prs W D m → m.length ≤ 1048576 → Calls Tryz.prog 16 #[.slice B m.length p, .slice D m.length q] W fun e w' => e = .returned (.bool true) ∧ Below W.heap.size W w') :=
    fun B D m p q W h1 h2 h3 => samePairs_any B D m p q W h1 h2 h3
  have k9 : Hid (∀ W, KT A F T S l ft tt ns W → Calls Tryz.prog 19 #[.slice A l.length c, .int .i64 n] W fun e w' => (∃ A' c', e = .returned (.slice A' (mapL (shiftT n) l).length c') ∧ Prs w' A' (mapL (shiftT n) l)) ∧ Below W.heap.size W w') :=
    fun W h => shift_any A l c n W h.2.1 h6 (by omega)
  have k10 : Hid (∀ (B : Option Addr) (d : Nat) W, Prs W B l → Calls Tryz.prog 20 #[.slice B l.length d, .int .i64 n] W fun e w' => (∃ A' c', e = .returned (.slice A' (mapL (shiftT n) l).length c') ∧ Prs w' A' (mapL (shiftT n) l)) ∧ Below W.heap.size W w') :=
    fun B d W h => (refShift_any B l d n W h hl).mono fun e w' ⟨⟨A', c', he, hq⟩, hb⟩ => ⟨⟨A', c', by rw [mapL_len]; exact he, hq⟩, hb⟩
  have k11 : Hid (∀ W, KT A F T S l ft tt ns W → Calls Tryz.prog 21 #[.slice A l.length c, .slice F ft.length cf, .slice T tt.length ct] W fun e w' => (∃ A' c', e = .returned (.slice A' (mapL (renL ft tt) l).length c') ∧ Prs w' A' (mapL (renL ft tt) l)) ∧ Below W.heap.size W w') :=
    fun W h => (rename_any A F T l ft tt c cf ct W h.2.1 h6 (by omega) h.2.2.1 h.2.2.2.1 okF hf6 ht6 (by unfold maxLen; omega))
  have k12 : Hid (∀ W, KT A F T S l ft tt ns W → Calls Tryz.prog 11 #[.slice F ft.length cf] W fun e w' => (∃ A' c', e = .returned (.slice A' ft.length c') ∧ Nms w' A' ft) ∧ Below W.heap.size W w') :=
    fun W h => (refAtoms_any F ft cf W h.2.2.1 (by omega)).mono fun e w' ⟨⟨A', c', he, hq, _⟩, hb⟩ => ⟨⟨A', c', he, hq⟩, hb⟩
  have k13 : Hid (∀ W, KT A F T S l ft tt ns W → Calls Tryz.prog 11 #[.slice T tt.length ct] W fun e w' => (∃ A' c', e = .returned (.slice A' tt.length c') ∧ Nms w' A' tt) ∧ Below W.heap.size W w') :=
    fun W h => (refAtoms_any T tt ct W h.2.2.2.1 (by omega)).mono fun e w' ⟨⟨A', c', he, hq, _⟩, hb⟩ => ⟨⟨A', c', he, hq⟩, hb⟩
  have k14 : Hid (∀ (B D G : Option Addr) (p q r : Nat) W, Prs W B l → Nms W D ft → Nms W G tt → Calls Tryz.prog 22 #[.slice B l.length p, .slice D ft.length q, .slice G tt.length r] W fun e w' => (∃ A' c', e = .returned (.slice A' (mapL (renL ft tt) l).length c') ∧ Prs w' A' (mapL (renL ft tt) l)) ∧ Below W.heap.size W w') :=
    fun B D G p q r W h1 h2 h3 => (refRename_any B D G l ft tt p q r W h1 h2 h3 hl hfl htl).mono fun e w' ⟨⟨A', c', he, hq⟩, hb⟩ => ⟨⟨A', c', by rw [mapL_len]; exact he, hq⟩, hb⟩
  have k15 : Hid (∀ W, Calls Tryz.prog 23 #[.int .i64 n] W fun e w' => e = .returned (.int .i64 (pointT n)) ∧ w' = W) := fun W => point_any n W hn
  have k16 : Hid (∀ W, Calls Tryz.prog 24 #[.int .i64 n] W fun e w' => e = .returned (.int .i64 (pointT n)) ∧ w' = W) := fun W => (refPoint_any n W hn).mono fun e w' ⟨h1, h2⟩ => ⟨h1, h2.symm⟩
  have k17 : Hid (∀ W, Calls Tryz.prog 25 #[.int .i64 a] W fun e w' => e = .returned (.int .i64 (pointOfT a)) ∧ w' = W) := fun W => pointOf_any a W ha
  have k18 : Hid (∀ W, Calls Tryz.prog 26 #[.int .i64 a] W fun e w' => e = .returned (.int .i64 (pointOfT a)) ∧ w' = W) := fun W => (refPointOf_any a W ha).mono fun e w' ⟨h1, h2⟩ => ⟨h1, h2.symm⟩
  have k23 : Hid (∀ W, Calls Tryz.prog 27 #[.int .i64 a] W fun e w' => e = .returned (.bool (decide (a < 0))) ∧ w' = W) := fun W => isPoint_any a W
  have k19 : Hid (∀ W, KT A F T S l ft tt ns W → Calls Tryz.prog 28 #[.slice S ns.length cs, .int .i64 a] W fun e w' => e = .returned (.string (textT ns a)) ∧ Below W.heap.size W w') := fun W h => text_any S ns cs a W h.1 h.2.2.2.2 ha
  have k20 : Hid (∀ W, KT A F T S l ft tt ns W → Calls Tryz.prog 29 #[.slice S ns.length cs, .int .i64 a] W fun e w' => e = .returned (.string (textT ns a)) ∧ Below W.heap.size W w') := fun W h => refText_any S ns cs a W h.2.2.2.2 ha
  have k21 : Hid (∀ W, KT A F T S l ft tt ns W → Calls Tryz.prog 30 #[.slice S ns.length cs, .slice A l.length c] W fun e w' => e = .returned (.string (textsT ns l)) ∧ Below W.heap.size W w') := fun W h => texts_any S A ns cs l c W h.1 h.2.2.2.2 h.2.1 h6 hl hs
  have k22 : Hid (∀ (B : Option Addr) (d : Nat) W, KT A F T S l ft tt ns W → Prs W B l → Calls Tryz.prog 31 #[.slice S ns.length cs, .slice B l.length d] W fun e w' => e = .returned (.string (textsT ns l)) ∧ Below W.heap.size W w') := fun B d W h h1 => refTexts_any S B ns cs l d W h.2.2.2.2 h1 h6 hl hs
  have hml : Hid (∀ f, (mapL f l).length ≤ 1048576) := fun f => by rw [mapL_len]; exact hl
  have hnl2 : Hid ((normL l).length ≤ 1048576) := by show _ ≤ _; omega
  have hlb := hl
  clear hE hP h6 _ok hl hF hf6 okF hfl hT ht6 _okT htl ha hn hS hs hnl
  generalize textT ns a = tx at k19 k20
  generalize textsT ns l = txs at k21 k22
  have hshl := Lib.hid (hml.out (shiftT n))
  have hrel := Lib.hid (hml.out (renL ft tt))
  generalize mapL (shiftT n) l = sh at k9 k10 hshl
  generalize mapL (renL ft tt) l = rl at k11 k14 hrel
  generalize normL l = nn at k7 k8 hnl2
  generalize varsL l = vv at k2 k3 k4 hvl
  generalize pointsL l = pv at k5 k6 hpl
  obtain ⟨L, hL⟩ : ∃ L, Hid (vv.length = L) := ⟨_, rfl⟩
  have hLl := hL.out
  rw [hLl] at k2 k3 k4 hvl
  clear hLl
  obtain ⟨M, hM⟩ : ∃ M, Hid (pv.length = M) := ⟨_, rfl⟩
  have hMl := hM.out
  rw [hMl] at k5 k6 hpl
  clear hMl hml
  have hLb : L ≤ 2097152 := by omega
  have hMb : M ≤ 2097152 := by omega
  clear hvl hpl hlb
  go_enter Tryz.func3, Tryz.ntmps3
  go_wp2_with fail
  refine kx.out.mono ?_
  rintro e w1 ⟨rfl, hb1⟩
  have K := Lib.hid (K0.out.later hb1)
  have B := Lib.hid hb1
  clear kx K0 hb1
  go_wp2_with fail
  refine (k1.out w1 K.out).mono ?_
  rintro e w2 ⟨⟨A1, c1, rfl, hR⟩, hb⟩
  replace K := Lib.hid (K.out.later hb)
  replace B := Lib.hid (B.out.trans (hb.mono B.out.size))
  replace hR := Lib.hid hR
  clear hb k1
  go_wp2_with fail
  refine (k2.out w2 K.out).mono ?_
  rintro e w3 ⟨⟨A2, c2, rfl, hv0⟩, hb⟩
  replace K := Lib.hid (K.out.later hb)
  replace B := Lib.hid (B.out.trans (hb.mono B.out.size))
  replace hR := Lib.hid (hR.out.later hb)
  replace hv0 := Lib.hid hv0
  clear hb k2
  go_wp2_with fail
  refine (k3.out A2 c2 w3 hv0.out).mono ?_
  rintro e w4 ⟨⟨A3, c3, rfl, hv⟩, hb⟩
  replace K := Lib.hid (K.out.later hb)
  replace B := Lib.hid (B.out.trans (hb.mono B.out.size))
  replace hR := Lib.hid (hR.out.later hb)
  replace hv0 := Lib.hid (hv0.out.later hb)
  replace hv := Lib.hid hv
  clear hb k3
  clear hv0
  go_wp2_with fail
  refine (k4.out A1 c1 w4 hR.out).mono ?_
  rintro e w5 ⟨⟨A4, c4, rfl, hu⟩, hb⟩
  replace K := Lib.hid (K.out.later hb)
  replace B := Lib.hid (B.out.trans (hb.mono B.out.size))
  replace hR := Lib.hid (hR.out.later hb)
  replace hv := Lib.hid (hv.out.later hb)
  replace hu := Lib.hid hu
  clear hb k4
  go_wp2_with fail
  refine (k5.out w5 K.out).mono ?_
  rintro e w6 ⟨⟨A5, c5, rfl, hp⟩, hb⟩
  replace K := Lib.hid (K.out.later hb)
  replace B := Lib.hid (B.out.trans (hb.mono B.out.size))
  replace hR := Lib.hid (hR.out.later hb)
  replace hv := Lib.hid (hv.out.later hb)
  replace hu := Lib.hid (hu.out.later hb)
  replace hp := Lib.hid hp
  clear hb k5
  go_wp2_with fail
  refine (k6.out A1 c1 w6 hR.out).mono ?_
  rintro e w7 ⟨⟨A6, c6, rfl, hq⟩, hb⟩
  replace K := Lib.hid (K.out.later hb)
  replace B := Lib.hid (B.out.trans (hb.mono B.out.size))
  replace hR := Lib.hid (hR.out.later hb)
  replace hv := Lib.hid (hv.out.later hb)
  replace hu := Lib.hid (hu.out.later hb)
  replace hp := Lib.hid (hp.out.later hb)
  replace hq := Lib.hid hq
  clear hb k6
  go_wp2_with fail
  go_loopw [19] (fun i wr => ∃ k : Nat, k ≤ L ∧ i = .int .i64 k ∧ Hid (Below w7.heap.size w7 wr)) (fun i _ => L - (intOf i).toNat)
  case atStart => exact ⟨0, Nat.zero_le _, rfl, Below.refl _ _⟩
  case round =>
    obtain ⟨k, hk, rfl, hb⟩ := hrel
    by_cases hlt : k < L
    · have ha : k < vv.length := by rw [hL.out]; exact hlt
      obtain ⟨ba, oa, rfl, -, ra⟩ := (hv.out.later hb.out) (by intro e; subst e; simp at ha)
      obtain ⟨bb, ob, rfl, -, rb⟩ := (hu.out.later hb.out) (by intro e; subst e; simp at ha)
      have c0 := ra k ha
      have c1 := rb k ha
      clear ra rb
      generalize vv.getD k 0 = x at c0 c1
      go_wp2_with fail
      go_quiet (fail)
      all_goals
        go_wp2_with fail
        go_roundw
        case rel => exact ⟨k + 1, by omega, by go_num, belowN hb.out _⟩
        case measure => simp [intOf]; omega
    · obtain rfl : k = L := by omega
      rename World => w8
      replace K := Lib.hid (K.out.later hb.out)
      replace B := Lib.hid (B.out.trans (hb.out.mono B.out.size))
      replace hR := Lib.hid (hR.out.later hb.out)
      replace hv := Lib.hid (hv.out.later hb.out)
      replace hu := Lib.hid (hu.out.later hb.out)
      replace hp := Lib.hid (hp.out.later hb.out)
      replace hq := Lib.hid (hq.out.later hb.out)
      clear hb hk hlt
      go_wp2_with fail
      clear hv hu
      go_loopw [20] (fun i wr => ∃ k : Nat, k ≤ M ∧ i = .int .i64 k ∧ Hid (Below w8.heap.size w8 wr)) (fun i _ => M - (intOf i).toNat)
      case atStart => exact ⟨0, Nat.zero_le _, rfl, Below.refl _ _⟩
      case round =>
        obtain ⟨k, hk, rfl, hb⟩ := hrel
        by_cases hlt : k < M
        · have ha : k < pv.length := by rw [hM.out]; exact hlt
          obtain ⟨ba, oa, rfl, -, ra⟩ := (hp.out.later hb.out) (by intro e; subst e; simp at ha)
          obtain ⟨bb, ob, rfl, -, rb⟩ := (hq.out.later hb.out) (by intro e; subst e; simp at ha)
          have c0 := ra k ha
          have c1 := rb k ha
          clear ra rb
          generalize pv.getD k 0 = x at c0 c1
          go_wp2_with fail
          go_quiet (fail)
          all_goals
            go_wp2_with fail
            go_roundw
            case rel => exact ⟨k + 1, by omega, by go_num, belowN hb.out _⟩
            case measure => simp [intOf]; omega
        · obtain rfl : k = M := by omega
          rename World => w9
          replace K := Lib.hid (K.out.later hb.out)
          replace B := Lib.hid (B.out.trans (hb.out.mono B.out.size))
          replace hR := Lib.hid (hR.out.later hb.out)
          replace hp := Lib.hid (hp.out.later hb.out)
          replace hq := Lib.hid (hq.out.later hb.out)
          clear hb hk hlt
          go_wp2_with fail
          clear hp hq
          refine (k7.out w9 K.out).mono ?_
          rintro e w10 ⟨⟨A7, c7, rfl, h7⟩, hb⟩
          replace K := Lib.hid (K.out.later hb)
          replace B := Lib.hid (B.out.trans (hb.mono B.out.size))
          replace hR := Lib.hid (hR.out.later hb)
          replace h7 := Lib.hid h7
          clear hb k7
          go_wp2_with fail
          refine (k8.out A1 c1 w10 hR.out).mono ?_
          rintro e w11 ⟨⟨A8, c8, rfl, h8⟩, hb⟩
          replace K := Lib.hid (K.out.later hb)
          replace B := Lib.hid (B.out.trans (hb.mono B.out.size))
          replace hR := Lib.hid (hR.out.later hb)
          replace h7 := Lib.hid (h7.out.later hb)
          replace h8 := Lib.hid h8
          clear hb k8
          go_wp2_with fail
          refine (kS.out A7 A8 nn c7 c8 w11 h7.out h8.out hnl2.out).mono ?_
          rintro e w12 ⟨rfl, hb⟩
          replace K := Lib.hid (K.out.later hb)
          replace B := Lib.hid (B.out.trans (hb.mono B.out.size))
          replace hR := Lib.hid (hR.out.later hb)
          replace h7 := Lib.hid (h7.out.later hb)
          replace h8 := Lib.hid (h8.out.later hb)
          clear hb
          clear h7 h8 hnl2
          go_wp2_with fail
          refine (k9.out w12 K.out).mono ?_
          rintro e w13 ⟨⟨A7, c7, rfl, h7⟩, hb⟩
          replace K := Lib.hid (K.out.later hb)
          replace B := Lib.hid (B.out.trans (hb.mono B.out.size))
          replace hR := Lib.hid (hR.out.later hb)
          replace h7 := Lib.hid h7
          clear hb k9
          go_wp2_with fail
          refine (k10.out A1 c1 w13 hR.out).mono ?_
          rintro e w14 ⟨⟨A8, c8, rfl, h8⟩, hb⟩
          replace K := Lib.hid (K.out.later hb)
          replace B := Lib.hid (B.out.trans (hb.mono B.out.size))
          replace hR := Lib.hid (hR.out.later hb)
          replace h7 := Lib.hid (h7.out.later hb)
          replace h8 := Lib.hid h8
          clear hb k10
          go_wp2_with fail
          refine (kS.out A7 A8 sh c7 c8 w14 h7.out h8.out hshl.out).mono ?_
          rintro e w15 ⟨rfl, hb⟩
          replace K := Lib.hid (K.out.later hb)
          replace B := Lib.hid (B.out.trans (hb.mono B.out.size))
          replace hR := Lib.hid (hR.out.later hb)
          replace h7 := Lib.hid (h7.out.later hb)
          replace h8 := Lib.hid (h8.out.later hb)
          clear hb
          clear h7 h8 hshl
          go_wp2_with fail
          refine (k11.out w15 K.out).mono ?_
          rintro e w16 ⟨⟨A7, c7, rfl, h7⟩, hb⟩
          replace K := Lib.hid (K.out.later hb)
          replace B := Lib.hid (B.out.trans (hb.mono B.out.size))
          replace hR := Lib.hid (hR.out.later hb)
          replace h7 := Lib.hid h7
          clear hb k11
          go_wp2_with fail
          refine (k12.out w16 K.out).mono ?_
          rintro e w17 ⟨⟨A8, c8, rfl, h8⟩, hb⟩
          replace K := Lib.hid (K.out.later hb)
          replace B := Lib.hid (B.out.trans (hb.mono B.out.size))
          replace hR := Lib.hid (hR.out.later hb)
          replace h7 := Lib.hid (h7.out.later hb)
          replace h8 := Lib.hid h8
          clear hb k12
          go_wp2_with fail
          refine (k13.out w17 K.out).mono ?_
          rintro e w18 ⟨⟨A9, c9, rfl, h9⟩, hb⟩
          replace K := Lib.hid (K.out.later hb)
          replace B := Lib.hid (B.out.trans (hb.mono B.out.size))
          replace hR := Lib.hid (hR.out.later hb)
          replace h7 := Lib.hid (h7.out.later hb)
          replace h8 := Lib.hid (h8.out.later hb)
          replace h9 := Lib.hid h9
          clear hb k13
          go_wp2_with fail
          refine (k14.out A1 A8 A9 c1 c8 c9 w18 hR.out h8.out h9.out).mono ?_
          rintro e w19 ⟨⟨A0, c0, rfl, h0⟩, hb⟩
          replace K := Lib.hid (K.out.later hb)
          replace B := Lib.hid (B.out.trans (hb.mono B.out.size))
          replace hR := Lib.hid (hR.out.later hb)
          replace h7 := Lib.hid (h7.out.later hb)
          replace h8 := Lib.hid (h8.out.later hb)
          replace h9 := Lib.hid (h9.out.later hb)
          replace h0 := Lib.hid h0
          clear hb k14
          clear h8 h9
          go_wp2_with fail
          refine (kS.out A7 A0 rl c7 c0 w19 h7.out h0.out hrel.out).mono ?_
          rintro e w20 ⟨rfl, hb⟩
          replace K := Lib.hid (K.out.later hb)
          replace B := Lib.hid (B.out.trans (hb.mono B.out.size))
          replace hR := Lib.hid (hR.out.later hb)
          replace h7 := Lib.hid (h7.out.later hb)
          replace h0 := Lib.hid (h0.out.later hb)
          clear hb
          clear h7 h0 hrel
          go_wp2_with fail
          refine (k15.out _).mono ?_
          rintro e w' ⟨rfl, rfl⟩
          clear k15
          go_wp2_with fail
          refine (k16.out _).mono ?_
          rintro e w' ⟨rfl, rfl⟩
          clear k16
          go_wp2_with fail
          refine (k17.out _).mono ?_
          rintro e w' ⟨rfl, rfl⟩
          clear k17
          go_wp2_with fail
          refine (k18.out _).mono ?_
          rintro e w' ⟨rfl, rfl⟩
          clear k18
          go_wp2_with fail
          refine (k23.out _).mono ?_
          rintro e w' ⟨rfl, rfl⟩
          clear k23
          go_wp2_with fail
          refine (k19.out _ K.out).mono ?_
          rintro e w21 ⟨rfl, hb⟩
          replace K := Lib.hid (K.out.later hb)
          replace B := Lib.hid (B.out.trans (hb.mono B.out.size))
          replace hR := Lib.hid (hR.out.later hb)
          clear hb k19
          go_wp2_with fail
          refine (k20.out _ K.out).mono ?_
          rintro e w22 ⟨rfl, hb⟩
          replace K := Lib.hid (K.out.later hb)
          replace B := Lib.hid (B.out.trans (hb.mono B.out.size))
          replace hR := Lib.hid (hR.out.later hb)
          clear hb k20
          go_wp2_with fail
          refine (k21.out _ K.out).mono ?_
          rintro e w23 ⟨rfl, hb⟩
          replace K := Lib.hid (K.out.later hb)
          replace B := Lib.hid (B.out.trans (hb.mono B.out.size))
          replace hR := Lib.hid (hR.out.later hb)
          clear hb k21
          go_wp2_with fail
          refine (k22.out A1 c1 _ K.out hR.out).mono ?_
          rintro e w24 ⟨rfl, hb⟩
          replace K := Lib.hid (K.out.later hb)
          replace B := Lib.hid (B.out.trans (hb.mono B.out.size))
          replace hR := Lib.hid (hR.out.later hb)
          clear hb k22
          go_wp2_with fail
          go_ret
          exact ⟨by first | rfl | simp, B.out⟩
end Go.Proofs.YtkagmkejndjepaaGreatDoor
