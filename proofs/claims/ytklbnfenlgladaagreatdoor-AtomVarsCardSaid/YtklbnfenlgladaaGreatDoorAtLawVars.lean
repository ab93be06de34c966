/-
  AtomVars. Condition: the pairs can be read, at most 2^43; the library's table lies as laid.
-/
import Derived.Test.YtklbnfenlgladaaGreatDoorAtEx
import Derived.Test.YtklbnfenlgladaaGreatDoorAtRenM
namespace Go.At
/-- is the number there? -/
def metI (l : List Int) (a : Int) : Bool := l.any fun z => z == a
def metP (l : List Int) (a : Int) : Bool := l.any fun z => pointT z == a
theorem met_snoc (l : List Int) (k : Nat) (hk : k < l.length) (a : Int) : metI (l.take (k + 1)) a = (metI (l.take k) a || (l.getD k 0 == a)) := by
  unfold metI
  rw [take_snoc l 0 k hk, List.any_append]
  simp
theorem metP_snoc (l : List Int) (k : Nat) (hk : k < l.length) (a : Int) : metP (l.take (k + 1)) a = (metP (l.take k) a || (pointT (l.getD k 0) == a)) := by
  unfold metP
  rw [take_snoc l 0 k hk, List.any_append]
  simp
theorem met_all (l : List Pr) (a : Int) (ha : a ∈ atomsL l) : (metI (varsL l) a || metP (pointsL l) a) = true := by
  rw [Bool.or_eq_true]
  by_cases h : 0 ≤ a
  · left
    unfold metI
    rw [List.any_eq_true]
    exact ⟨a, (vars_mem l a).2 ⟨ha, h⟩, beq_self_eq_true a⟩
  · right
    unfold metP
    rw [List.any_eq_true]
    refine ⟨-1 - a, (points_mem l _).2 ⟨by omega, by rwa [show -1 - (-1 - a) = a by omega]⟩, ?_⟩
    rw [show pointT (-1 - a) = a from (if_neg (by omega)).trans (by omega)]
    exact beq_self_eq_true a
theorem pick_both : ∀ l : List Int, (l.flatMap pickV).length + (l.flatMap pickP).length ≤ l.length
  | [] => by simp
  | a :: r => by
    have ih := pick_both r
    rw [List.flatMap_cons, List.flatMap_cons, List.length_append, List.length_append, List.length_cons]
    have : (pickV a).length + (pickP a).length ≤ 1 := by
      unfold pickV pickP isV isP
      by_cases h : a < 0 <;> simp [h]
    omega
theorem len_both (l : List Pr) : (varsL l).length + (pointsL l).length ≤ 2 * l.length := by
  have h1 := pick_both (atomsL l)
  rw [atoms_len] at h1
  have h2 := ord_len (lt := ltI) ((atomsL l).flatMap pickV)
  have h3 := ord_len (lt := ltI) ((atomsL l).flatMap pickP)
  unfold varsL pointsL
  omega
/-- what rises, from 0 on -/
def Rise (v : List Int) : Prop := ∀ k, k < v.length → 0 ≤ v.getD k 0 ∧ (k + 1 < v.length → v.getD k 0 < v.getD (k + 1) 0)
theorem rise_of {v : List Int} (h : Asc ltI v) (h0 : ∀ z ∈ v, 0 ≤ z) : Rise v := fun k hk => by
  refine ⟨h0 _ (by rw [List.getD_eq_getElem?_getD, List.getElem?_eq_getElem hk]; exact List.getElem_mem _), fun hk1 => ?_⟩
  have := List.pairwise_iff_getElem.1 h k (k + 1) hk hk1 (by omega)
  rw [List.getD_eq_getElem?_getD, List.getD_eq_getElem?_getD, List.getElem?_eq_getElem hk, List.getElem?_eq_getElem hk1]
  exact of_decide_eq_true this
theorem vars_rise (l : List Pr) : Rise (varsL l) := rise_of (ord_asc linI _) fun z hz => ((vars_mem l z).1 hz).2
theorem points_rise (l : List Pr) : Rise (pointsL l) := rise_of (ord_asc linI _) fun z hz => ((points_mem l z).1 hz).1
end Go.At
namespace Go.Proofs.YtklbnfenlgladaaGreatDoor
open Go.RowKit Go.Shelf Go.At
attribute [local go_sem] Oper.semAt_some

theorem points_i64 {l : List Pr} (h6 : ∀ p ∈ l, I64 p.1 ∧ I64 p.2) : ∀ x ∈ pointsL l, I64 x := by
  intro x hx
  obtain ⟨h1, h2⟩ := (points_mem l x).1 hx
  obtain ⟨p, hp, e⟩ := (atoms_mem l _).1 h2
  have : I64 (-1 - x) := by
    rcases e with e | e
    · rw [e]; exact (h6 p hp).1
    · rw [e]; exact (h6 p hp).2
  obtain ⟨a1, a2⟩ := this
  exact ⟨by omega, by omega⟩
set_option maxRecDepth 100000 in
set_option maxHeartbeats 4000000 in
theorem atomVars_any (A : Option Addr) (l : List Pr) (c : Nat) (w : World) (hE : Env w) (hP : Prs w A l) (h6 : ∀ p ∈ l, I64 p.1 ∧ I64 p.2) (_ok : OkS A l.length c) (hl : l.length ≤ 8796093022208) :
    Calls Tryz.prog 6 #[.slice A l.length c] w fun e w' => e = .returned (.bool true) ∧ Below w.heap.size w w' := by
  have kx := Lib.hid (examples_any w hE)
  have hll := Lib.hid hl
  have hboth := len_both l
  have hmet := Lib.hid (met_all l)
  have hrv := Lib.hid (vars_rise l)
  have hrp := Lib.hid (points_rise l)
  have hp6 := Lib.hid (points_i64 h6)
  obtain ⟨L, hL⟩ : ∃ L, Hid (l.length = L) := ⟨_, rfl⟩
  have hLl := hL.out
  rw [hLl] at hl hboth ⊢
  clear hLl
  replace h6 := Lib.hid h6
  go_enter Tryz.func6, Tryz.ntmps6
  go_wp2_with fail
  refine kx.out.mono ?_
  rintro e w1 ⟨rfl, hb1⟩
  have kv := vars_any A l c w1 (hP.later hb1) h6.out hll.out
  rw [hL.out] at kv
  have hP1 := Lib.hid (hP.later hb1)
  replace hb1 := Lib.hid hb1
  replace kv := Lib.hid kv
  clear hP kx
  go_wp2_with fail
  refine kv.out.mono ?_
  rintro e w2 ⟨⟨Av, cv, rfl, hNv, -⟩, hb2⟩
  have kp := points_any A l c w2 (hP1.out.later hb2) h6.out hll.out
  rw [hL.out] at kp
  have hP2 := Lib.hid (hP1.out.later hb2)
  have hB2 := Lib.hid (hb1.out.trans (hb2.mono hb1.out.size))
  obtain ⟨v, hv⟩ : ∃ v, varsL l = v := ⟨_, rfl⟩
  obtain ⟨p, hp⟩ : ∃ p, pointsL l = p := ⟨_, rfl⟩
  rw [hv] at hNv hmet hrv hboth ⊢
  rw [hp] at kp hmet hrp hboth hp6
  replace hNv := Lib.hid hNv
  replace kp := Lib.hid kp
  replace hv := Lib.hid hv
  replace hp := Lib.hid hp
  clear kv hb1 hb2 hP1
  obtain ⟨V, hV⟩ : ∃ V, Hid (v.length = V) := ⟨_, rfl⟩
  obtain ⟨K, hK⟩ : ∃ K, Hid (p.length = K) := ⟨_, rfl⟩
  have hVv := hV.out
  have hKk := hK.out
  rw [hVv] at hboth ⊢
  rw [hKk] at hboth kp
  clear hVv hKk
  go_wp2_with fail
  refine kp.out.mono ?_
  rintro e w3 ⟨⟨Ap, cp, rfl, hNp, -⟩, hb3⟩
  have hP3 := Lib.hid (hP2.out.later hb3)
  have hNv3 := Lib.hid (hNv.out.later hb3)
  have hB3 := Lib.hid (hB2.out.trans (hb3.mono hB2.out.size))
  replace hNp := Lib.hid hNp
  clear kp hb3 hB2 hP2 hNv
  have hbV : V ≤ 17592186044416 := by omega
  have hbK : K ≤ 17592186044416 := by omega
  have hw2 : IntKind.i64.wrap (2 * (L : Int)) = 2 * (L : Int) := wrap_i ⟨by omega, by omega⟩
  have hbi : decide ((V : Int) + (K : Int) ≤ 2 * (L : Int)) = true := decide_eq_true (by omega)
  have hbj : (V : Int) + (K : Int) ≤ 2 * (L : Int) := by omega
  replace hboth := Lib.hid hboth
  go_wp2_with fail
  go_loopw [6] (fun i W => ∃ k : Nat, k ≤ L ∧ i = .int .i64 k ∧ Hid (Below w3.heap.size w3 W)) (fun i _ => L - (intOf i).toNat)
  case atStart => exact ⟨0, Nat.zero_le _, rfl, Below.refl _ _⟩
  case round =>
    obtain ⟨k, hk, rfl, hB⟩ := hrel
    by_cases hlt : k < L
    · have hkl : k < l.length := by rw [hL.out]; exact hlt
      obtain ⟨b, off, rfl, hb, hc⟩ := (hP3.out.later hB.out) (by intro e; subst e; simp at hkl)
      obtain ⟨c0, c1⟩ := hc k hkl
      clear hc
      have hma : Hid (∀ j, j < 2 → (metI v ([(l.getD k (0, 0)).1, (l.getD k (0, 0)).2].getD j 0) || metP p ([(l.getD k (0, 0)).1, (l.getD k (0, 0)).2].getD j 0)) = true) := fun j hj => by
        have hmem : l.getD k (0, 0) ∈ l := by rw [List.getD_eq_getElem?_getD, List.getElem?_eq_getElem hkl]; exact List.getElem_mem _
        match j, hj with
        | 0, _ => exact hmet.out _ ((atoms_mem l _).2 ⟨_, hmem, .inl rfl⟩)
        | 1, _ => exact hmet.out _ ((atoms_mem l _).2 ⟨_, hmem, .inr rfl⟩)
      generalize l.getD k (0, 0) = q at c0 c1 hma
      obtain ⟨x, y⟩ := q
      dsimp only at c0 c1 hma
      have hA1 : Hid (Below w3.heap.size w3 ((wr.alloc (.cells #[.int .i64 x, .int .i64 y] 24)).drew)) := (hB.out.alloc hB.out.size _).drew
      have s0 : ((wr.alloc (.cells #[.int .i64 x, .int .i64 y] 24)).drew).cell? ⟨b, off + k * 2, none⟩ = some (.int .i64 x) := ((later_alloc wr _).cell (p := ⟨b, off + k * 2, none⟩) hb).trans c0
      have s1 : ((wr.alloc (.cells #[.int .i64 x, .int .i64 y] 24)).drew).cell? ⟨b, off + k * 2 + 1, none⟩ = some (.int .i64 y) := ((later_alloc wr _).cell (p := ⟨b, off + k * 2 + 1, none⟩) hb).trans c1
      have t0 : Hid (((wr.alloc (.cells #[.int .i64 x, .int .i64 y] 24)).drew).cell? ⟨wr.heap.size, 0, none⟩ = some (.int .i64 x)) := cell_of_row _ _ 0 _ _ _ (World.alloc_heap_new wr _)
      have t1 : Hid (((wr.alloc (.cells #[.int .i64 x, .int .i64 y] 24)).drew).cell? ⟨wr.heap.size, 1, none⟩ = some (.int .i64 y)) := cell_of_row _ _ 1 _ _ _ (World.alloc_heap_new wr _)
      go_wp2_with fail
      go_region_held3 (fun W => W.cell? ⟨b, off + k * 2, none⟩ = some (.int .i64 x) ∧ W.cell? ⟨b, off + k * 2 + 1, none⟩ = some (.int .i64 y)) (first | exact ⟨c0, c1⟩ | exact ⟨s0, s1⟩) (fail)
      obtain ⟨V9, hV9⟩ : ∃ V9, (wr.alloc (.cells #[.int .i64 x, .int .i64 y] 24)).drew = V9 := ⟨_, rfl⟩
      obtain ⟨g9, hg9⟩ : ∃ g9, wr.heap.size = g9 := ⟨_, rfl⟩
      have hs9 : wr.heap.size < V9.heap.size := by rw [← hV9]; show wr.heap.size < (wr.alloc _).heap.size; simp
      rw [hV9] at hA1 t0 t1 ⊢
      rw [hg9] at t0 t1 hs9 ⊢
      replace hg9 := Lib.hid hg9
      have hW3 : Hid (∀ W, Below V9.heap.size V9 W → Below w3.heap.size w3 W) := fun W hW => hA1.out.trans (hW.mono hA1.out.size)
      clear hV9 s0 s1 c0 c1
      go_wp2_with fail
      go_loopw [39] (fun i W => ∃ j : Nat, j ≤ 2 ∧ i = .int .i64 j ∧ Hid (Below V9.heap.size V9 W)) (fun i _ => 2 - (intOf i).toNat)
      case atStart => exact ⟨0, Nat.zero_le _, rfl, Below.refl _ _⟩
      case round =>
        obtain ⟨j, hj, rfl, hB9⟩ := hrel
        by_cases hj2 : j < 2
        · have hca : wr.cell? ⟨g9, j, none⟩ = some (.int .i64 ([x, y].getD j 0)) := by
            match j, hj2 with
            | 0, _ => exact (hB9.out.cell (p := ⟨g9, 0, none⟩) hs9).trans t0.out
            | 1, _ => exact (hB9.out.cell (p := ⟨g9, 1, none⟩) hs9).trans t1.out
          have hme := hma.out j hj2
          generalize [x, y].getD j 0 = a at hca hme
          have hji : (j : Int) < 2 := by omega
          have hjd : decide ((j : Int) < 2) = true := decide_eq_true hji
          replace hme := Lib.hid hme
          go_wp2_with fail
          go_loopw [9, 10] (fun f i W => ∃ m : Nat, m ≤ V ∧ f = .bool (metI (v.take m) a) ∧ i = .int .i64 m ∧ Hid (Below V9.heap.size V9 W)) (fun _ i _ => V - (intOf i).toNat)
          case atStart => exact ⟨0, Nat.zero_le _, rfl, rfl, hB9.out⟩
          case round =>
            clear hB9 hca
            obtain ⟨m, hm, rfl, rfl, hB9⟩ := hrel
            by_cases hm2 : m < V
            · have hmv : m < v.length := by rw [hV.out]; exact hm2
              obtain ⟨bv, ov, rfl, -, hrow⟩ := (hNv3.out.later (hW3.out _ hB9.out)) (by intro e; subst e; simp at hmv)
              have cv0 := hrow m hmv
              have hsn := met_snoc v m hmv a
              clear hrow
              generalize v.getD m 0 = z at cv0 hsn
              cases hf : metI (v.take m) a with
              | true =>
                rw [hf, Bool.true_or] at hsn
                replace hsn := Lib.hid hsn
                replace hf := Lib.hid hf
                go_wp2_with fail
                go_roundw
                case rel => exact ⟨m + 1, by omega, by rw [hsn.out], by go_num, hB9.out⟩
                case measure => simp [intOf]; omega
              | false =>
                rw [hf, Bool.false_or] at hsn
                replace hf := Lib.hid hf
                replace hsn := Lib.hid hsn
                go_wp2_with fail
                go_roundw
                case rel => exact ⟨m + 1, by omega, by rw [hsn.out], by go_num, hB9.out⟩
                case measure => simp [intOf]; omega
            · obtain rfl : m = V := by omega
              have hta : v.take m = v := List.take_of_length_le (by rw [hV.out]; exact Nat.le_refl _)
              rw [hta]
              replace hta := Lib.hid hta
              obtain ⟨f0, hf0⟩ : ∃ f0, metI v a = f0 := ⟨_, rfl⟩
              rw [hf0] at hme ⊢
              replace hf0 := Lib.hid hf0
              go_wp2_with fail
              go_loopw [9, 11] (fun f i W => ∃ n : Nat, n ≤ K ∧ f = .bool (f0 || metP (p.take n) a) ∧ i = .int .i64 n ∧ Hid (Below V9.heap.size V9 W)) (fun _ i _ => K - (intOf i).toNat)
              case atStart => exact ⟨0, Nat.zero_le _, by simp [metP], rfl, hB9.out⟩
              case round =>
                clear hB9
                obtain ⟨n, hn, rfl, rfl, hB9⟩ := hrel
                by_cases hn2 : n < K
                · have hnp : n < p.length := by rw [hK.out]; exact hn2
                  obtain ⟨bp, op, rfl, -, hrow⟩ := (hNp.out.later (hW3.out _ hB9.out)) (by intro e; subst e; simp at hnp)
                  have cv0 := hrow n hnp
                  have hsn := metP_snoc p n hnp a
                  have hz6 := hp6.out (p.getD n 0) (by rw [List.getD_eq_getElem?_getD, List.getElem?_eq_getElem hnp]; exact List.getElem_mem _)
                  clear hrow
                  generalize p.getD n 0 = z at cv0 hsn hz6
                  have kz := Lib.hid (fun W => point_any z W hz6)
                  clear hz6
                  generalize pointT z = pz at kz hsn
                  have hor : Hid ((f0 || metP (p.take (n + 1)) a) = ((f0 || metP (p.take n) a) || (pz == a))) := by show _ = _; rw [hsn, Bool.or_assoc]
                  clear hsn
                  cases hf : (f0 || metP (p.take n) a) with
                  | true =>
                    have hor2 : Hid ((f0 || metP (p.take (n + 1)) a) = true) := by show _ = _; rw [hor.out, hf]; rfl
                    replace hf := Lib.hid hf
                    go_wp2_with fail
                    go_roundw
                    case rel => exact ⟨n + 1, by omega, by rw [hor2.out], by go_num, hB9.out⟩
                    case measure => simp [intOf]; omega
                  | false =>
                    have hor2 : Hid ((f0 || metP (p.take (n + 1)) a) = (pz == a)) := by show _ = _; rw [hor.out, hf, Bool.false_or]
                    replace hf := Lib.hid hf
                    go_wp2_with (go_at_call 23; refine (kz.out _).mono ?_; rintro e w' ⟨rfl, hw⟩; cases hw)
                    go_roundw
                    case rel => exact ⟨n + 1, by omega, by rw [hor2.out], by go_num, hB9.out⟩
                    case measure => simp [intOf]; omega
                · obtain rfl : n = K := by omega
                  have hta2 : p.take n = p := List.take_of_length_le (by rw [hK.out]; exact Nat.le_refl _)
                  rw [hta2, hme.out]
                  replace hta2 := Lib.hid hta2
                  go_wp2_with fail
                  go_roundw
                  case rel => exact ⟨j + 1, by omega, by go_num, hB9.out⟩
                  case measure => simp [intOf]; omega
        · obtain rfl : j = 2 := by omega
          go_wp2_with fail
          go_roundw
          case rel => exact ⟨k + 1, by omega, by go_num, hA1.out.trans (hB9.out.mono (by have := hA1.out.size; omega))⟩
          case measure => simp [intOf]; omega
    · obtain rfl : k = L := by omega
      go_wp2_with fail
      go_loopw [12] (fun i W => ∃ m : Nat, m ≤ V ∧ i = .int .i64 m ∧ Hid (Below w3.heap.size w3 W)) (fun i _ => V - (intOf i).toNat)
      case atStart => exact ⟨0, Nat.zero_le _, rfl, hB.out⟩
      case round =>
        clear hB
        obtain ⟨m, hm, rfl, hB⟩ := hrel
        by_cases hm2 : m < V
        · have hmv : m < v.length := by rw [hV.out]; exact hm2
          obtain ⟨bv, ov, rfl, -, hrow⟩ := (hNv3.out.later hB.out) (by intro e; subst e; simp at hmv)
          cases m with
          | zero =>
            have cv0 := hrow 0 hmv
            rw [Nat.add_zero] at cv0
            have h0 := (hrv.out 0 hmv).1
            clear hrow
            generalize v.getD 0 0 = z at cv0 h0
            have hd : decide (z < 0) = false := decide_eq_false (by omega)
            have hzz : ¬ z < 0 := by omega
            have hVi : (0 : Int) < (V : Int) := by omega
            go_wp2_with fail
            go_quiet (fail)
            all_goals
              go_wp2_with fail
              go_roundw
              case rel => exact ⟨1, by omega, by first | rfl | go_num | trivial, belowN hB.out _⟩
              case measure => simp [intOf]; omega
          | succ m =>
            have cv0 := hrow (m + 1) hmv
            have cv1 := hrow m (by omega)
            have h0 := (hrv.out (m + 1) hmv).1
            have h1 := (hrv.out m (by omega)).2 hmv
            clear hrow
            generalize v.getD (m + 1) 0 = z at cv0 h0 h1
            generalize v.getD m 0 = y at cv1 h1
            have hd : decide (z < 0) = false := decide_eq_false (by omega)
            have hd2 : decide (z ≤ y) = false := decide_eq_false (by omega)
            have hwk : IntKind.i64.wrap (m : Int) = (m : Int) := wrap_i ⟨by omega, by omega⟩
            have hb1 : (m : Int) < (V : Int) := by omega
            have hb2 : (m : Int) + 1 < (V : Int) := by omega
            have hb3 : (0 : Int) ≤ (m : Int) + 1 := by omega
            have hb4 : (0 : Int) < (m : Int) + 1 := by omega
            have hb5 : decide ((0 : Int) < (m : Int) + 1) = true := decide_eq_true hb4
            have e1 : ((m + 1 : Nat) : Int) = (m : Int) + 1 := by omega
            rw [e1]
            clear e1
            go_wp2_with fail
            go_quiet (fail)
            all_goals
              go_wp2_with fail
              go_roundw
              case rel => exact ⟨m + 1 + 1, by omega, by go_num, belowN hB.out _⟩
              case measure => simp [intOf]; omega
        · obtain rfl : m = V := by omega
          go_wp2_with fail
          go_loopw [13] (fun i W => ∃ m : Nat, m ≤ K ∧ i = .int .i64 m ∧ Hid (Below w3.heap.size w3 W)) (fun i _ => K - (intOf i).toNat)
          case atStart => exact ⟨0, Nat.zero_le _, rfl, hB.out⟩
          case round =>
            clear hB
            obtain ⟨m, hm, rfl, hB⟩ := hrel
            by_cases hm2 : m < K
            · have hmv : m < p.length := by rw [hK.out]; exact hm2
              obtain ⟨bv, ov, rfl, -, hrow⟩ := (hNp.out.later hB.out) (by intro e; subst e; simp at hmv)
              cases m with
              | zero =>
                have cv0 := hrow 0 hmv
                rw [Nat.add_zero] at cv0
                have h0 := (hrp.out 0 hmv).1
                clear hrow
                generalize p.getD 0 0 = z at cv0 h0
                have hd : decide (z < 0) = false := decide_eq_false (by omega)
                have hzz : ¬ z < 0 := by omega
                have hVi : (0 : Int) < (K : Int) := by omega
                go_wp2_with fail
                go_quiet (fail)
                all_goals
                  go_wp2_with fail
                  go_roundw
                  case rel => exact ⟨1, by omega, by first | rfl | go_num | trivial, belowN hB.out _⟩
                  case measure => simp [intOf]; omega
              | succ m =>
                have cv0 := hrow (m + 1) hmv
                have cv1 := hrow m (by omega)
                have h0 := (hrp.out (m + 1) hmv).1
                have h1 := (hrp.out m (by omega)).2 hmv
                clear hrow
                generalize p.getD (m + 1) 0 = z at cv0 h0 h1
                generalize p.getD m 0 = y at cv1 h1
                have hd : decide (z < 0) = false := decide_eq_false (by omega)
                have hd2 : decide (z ≤ y) = false := decide_eq_false (by omega)
                have hwk : IntKind.i64.wrap (m : Int) = (m : Int) := wrap_i ⟨by omega, by omega⟩
                have hb1 : (m : Int) < (K : Int) := by omega
                have hb2 : (m : Int) + 1 < (K : Int) := by omega
                have hb3 : (0 : Int) ≤ (m : Int) + 1 := by omega
                have hb4 : (0 : Int) < (m : Int) + 1 := by omega
                have hb5 : decide ((0 : Int) < (m : Int) + 1) = true := decide_eq_true hb4
                have e1 : ((m + 1 : Nat) : Int) = (m : Int) + 1 := by omega
                rw [e1]
                clear e1
                go_wp2_with fail
                go_quiet (fail)
                all_goals
                  go_wp2_with fail
                  go_roundw
                  case rel => exact ⟨m + 1 + 1, by omega, by go_num, belowN hB.out _⟩
                  case measure => simp [intOf]; omega
            · obtain rfl : m = K := by omega
              go_wp2_with fail
              go_ret
              exact ⟨rfl, hB3.out.trans (hB.out.mono hB3.out.size)⟩
end Go.Proofs.YtklbnfenlgladaaGreatDoor
