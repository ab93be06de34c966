/-
  SolveLeast. Condition: the pairs can be read, at most 2^43; bytes; the library's table lies as laid.
-/
import Derived.Test.YtlhfdedjboanfaaDoorSvExs
import Derived.Test.YtlhfdedjboanfaaDoorSvLawN
namespace Go.Proofs.YtlhfdedjboanfaaDoor
open Go.RowKit Go.Shelf Go.At Go.Sv
attribute [local go_sem] Oper.semAt_some

/-- bytes in a row -/
def BtsV (w : World) (A : Option Addr) (zs : List Int) : Prop :=
  zs ≠ [] → ∃ b off, A = some ⟨b, off, none⟩ ∧ b < w.heap.size ∧ ∀ j, j < zs.length → w.cell? ⟨b, off + j, none⟩ = some (.int .u8 (zs.getD j 0))
theorem BtsV.later {w w' : World} {A : Option Addr} {zs : List Int} (h : BtsV w A zs) (hb : Below w.heap.size w w') : BtsV w' A zs := fun hn => by
  obtain ⟨b, off, hA, hlt, hc⟩ := h hn
  exact ⟨b, off, hA, Nat.lt_of_lt_of_le hlt hb.size, fun j hj => (hb.cell (p := ⟨b, off + j, none⟩) hlt).trans (hc j hj)⟩
/-- the points that are tried -/
def tryF (n : Nat) (zs : List Int) (i : Nat) : Int := if i < zs.length then zs.getD i 0 % (n : Int) else 0
def tryL (n : Nat) (zs : List Int) (k : Nat) : List Pr := (List.range k).map fun (i : Nat) => (((i : Nat) : Int), tryF n zs i)
theorem try_snoc (n : Nat) (zs : List Int) (k : Nat) : tryL n zs (k + 1) = tryL n zs k ++ [((k : Int), tryF n zs k)] := by
  unfold tryL
  rw [List.range_succ, List.map_append]; rfl
theorem try_len (n : Nat) (zs : List Int) (k : Nat) : (tryL n zs k).length = k := by unfold tryL; simp
theorem try_in {n : Nat} (hn : 0 < n) (zs : List Int) (i : Nat) : 0 ≤ tryF n zs i ∧ tryF n zs i < n := by
  unfold tryF
  split
  · exact ⟨Int.emod_nonneg _ (by omega), Int.emod_lt_of_pos _ (by omega)⟩
  · omega

set_option maxRecDepth 100000 in
set_option maxHeartbeats 4000000 in
theorem solveLeast_any (k0 : Int) (C : Option Addr) (l : List Pr) (cc : Nat) (Z : Option Addr) (zs : List Int) (cz : Nat) (w : World) (hE : L.Env w) (hk0 : 0 ≤ k0 ∧ k0 < 256) (hP : Prs w C l) (h6 : ∀ p ∈ l, I64 p.1 ∧ I64 p.2) (_ok : OkS C l.length cc) (hl : l.length ≤ 8796093022208) (hZ : BtsV w Z zs) (hz8 : ∀ z ∈ zs, 0 ≤ z ∧ z ≤ 255) (hzl : zs.length ≤ 9223372036854775807) :
    Calls Tryd.prog 4 #[.int .u8 k0, .slice C l.length cc, .slice Z zs.length cz] w fun e w' => e = .returned (.bool true) ∧ Below w.heap.size w w' := by
  obtain ⟨k, rfl⟩ : ∃ k : Nat, k0 = (k : Int) := ⟨k0.toNat, by omega⟩
  have hk : k < 256 := by omega
  clear hk0 _ok
  have kx := Lib.hid (examples_any w hE)
  have kla := Lib.hid (fun W => lats_any W)
  have hq : k % 6 < 6 := Nat.mod_lt _ (by omega)
  obtain ⟨q, hqk⟩ : ∃ q, k % 6 = q := ⟨_, rfl⟩
  rw [hqk] at hq
  have hqi : ((k : Nat) : Int) % 6 = ((q : Nat) : Int) := by omega

  replace h6 := Lib.hid h6
  go_enter Tryd.func4, Tryd.ntmps4
  go_wp2_with (first
    | (go_at_call 9; refine kx.out.mono ?_; rintro e w1 ⟨rfl, hb1⟩; replace hb1 := Lib.hid hb1)
    | (go_at_call 21; refine (kla.out _).mono ?_; rintro e w2 ⟨⟨g, rfl, hg⟩, hb2⟩; obtain ⟨A, B, ha, hb, hL⟩ := hg q hq; replace hL := Lib.hid hL; replace hb2 := Lib.hid hb2; clear hg))
  obtain ⟨hn0, hn1⟩ := len_at hq
  have hu := hL.out.ulen
  have hnu : (nsL q).length = (usL q).length := by
    rcases (show q = 0 ∨ q = 1 ∨ q = 2 ∨ q = 3 ∨ q = 4 ∨ q = 5 by omega) with rfl | rfl | rfl | rfl | rfl | rfl <;> rfl
  have hbx := later_alloc w2 (.cells #[.slice A (nsL q).length (nsL q).length, .slice B (usL q).length (usL q).length] 25)
  have hx0 := World.alloc_heap_new w2 (.cells #[.slice A (nsL q).length (nsL q).length, .slice B (usL q).length (usL q).length] 25)
  have z1 : (w2.alloc (.cells #[.slice A (nsL q).length (nsL q).length, .slice B (usL q).length (usL q).length] 25)).heap.size = w2.heap.size + 1 := World.size_alloc ..
  obtain ⟨W0, hW0⟩ : ∃ W, w2.alloc (.cells #[.slice A (nsL q).length (nsL q).length, .slice B (usL q).length (usL q).length] 25) = W := ⟨_, rfl⟩
  rw [hW0]
  rw [hW0] at hbx hx0 z1
  have hB2 := hb1.out.trans (hb2.out.mono hb1.out.size)
  have hB0 := Lib.hid (hB2.trans (hbx.mono hB2.size))
  have own := Lib.hid (fun (W : World) (h : Below W0.heap.size W0 W) => (Own.mk (hE.later (hB0.out.trans (h.mono hB0.out.size))) ((hL.out.later hbx).later h) : Own W q A B))
  have hP0 := Lib.hid (hP.later hB0.out)
  have b0 : W0.cell? ⟨w2.heap.size, 0, none⟩ = some (.slice A (nsL q).length (nsL q).length) := cell_of_row _ _ 0 _ _ _ hx0
  have b1 : W0.cell? ⟨w2.heap.size, 1, none⟩ = some (.slice B (usL q).length (usL q).length) := cell_of_row _ _ 1 _ _ _ hx0
  have kb := Lib.hid (fun (W : World) (h : Below W0.heap.size W0 W) => And.intro ((h.cell (p := ⟨w2.heap.size, 0, none⟩) (by show w2.heap.size < _; omega)).trans b0) ((h.cell (p := ⟨w2.heap.size, 1, none⟩) (by show w2.heap.size < _; omega)).trans b1))
  have kpt := points_any A B (nsL q).length (usL q).length (nsL q).length (usL q).length hn0 hn1 C l cc W0 hP0.out h6.out hl
  obtain ⟨c, hc⟩ : ∃ c, ptsL (nsL q).length l = c := ⟨_, rfl⟩
  have hc6 := ptsL_i64 hn0 hn1 l
  have hck := pts_known hn0 l
  have hcl := ptsL_len (nsL q).length l
  rw [hc] at kpt hc6 hck hcl
  have hkc : knownT (nsL q) (usL q) c = true := by
    unfold knownT
    rw [right_at hq, Bool.true_and, List.all_eq_true]
    intro p hp
    rw [(hck p hp).1, (hck p hp).2]; rfl
  obtain ⟨J, M, zz, tt, hT⟩ := L.told_of (w64_at hq) (right_at hq)
  have kle := Lib.hid (fun (W : World) (h : Below W0.heap.size W0 W) (D : Option Addr) (cd : Nat) (hD : Prs W D c) => least_any A B (nsL q) (usL q) (nsL q).length (usL q).length D c cd W (own.out W h).env (own.out W h).lat hD hc6 (by omega))
  have kso := Lib.hid (fun (s : List Pr) (hs6 : ∀ p ∈ s, I64 p.1 ∧ I64 p.2) (hsl : s.length ≤ 8796093022208) (W : World) (h : Below W0.heap.size W0 W) (D1 : Option Addr) (c1 : Nat) (h1 : Prs W D1 c) (D2 : Option Addr) (c2 : Nat) (h2 : Prs W D2 s) (ok2 : OkS D2 s.length c2) => solves_any A B (nsL q) (usL q) (nsL q).length (usL q).length D1 c c1 D2 s c2 W (own.out W h).env (own.out W h).lat h1 hc6 (by omega) h2 hs6 ok2 hsl)
  have kvl := Lib.hid (fun (W : World) (h : Below W0.heap.size W0 W) (D : Option Addr) (r : List Pr) (cd : Nat) (hD : Prs W D r) (hr : r.length ≤ 8796093022208) (a : Int) (ha : I64 a) => value_any A B (nsL q) (usL q) (nsL q).length (usL q).length D r cd a ha W (own.out W h).env (own.out W h).lat hD hr)
  have hZ0 := Lib.hid (hZ.later hB0.out)
  replace kpt := Lib.hid kpt
  replace hnu := Lib.hid hnu
  refine kpt.out.mono ?_
  rintro e w3 ⟨⟨D, cd, rfl, hD, okD⟩, hb3⟩
  have hb3' := Lib.hid hb3
  replace hD := Lib.hid hD
  obtain ⟨b0, b1⟩ := kb.out _ hb3
  have hZ3 := Lib.hid (hZ0.out.later hb3)
  clear kpt hx0 hW0 hP hP0 ha hb kx kla hb3 hZ hZ0
  replace z1 := Lib.hid z1
  replace hbx := Lib.hid hbx
  go_wp2_with fail
  refine (kle.out w3 hb3'.out D cd hD.out).mono ?_
  rintro e w4 ⟨⟨R, cr, r, ok, rfl, hR, okR, hr6, hLT⟩, hb4⟩
  have hO4 := Lib.hid (below_on hb3'.out hb4)
  have hD4 := Lib.hid (hD.out.later hb4)
  have hZ4 := Lib.hid (hZ3.out.later hb4)
  replace hR := Lib.hid hR
  replace hr6 := Lib.hid hr6
  clear hb4 kle hD hZ3 b0 b1
  obtain ⟨j0, hj, hj2⟩ := Option.map_eq_some_iff.1 info_sol
  obtain ⟨hy0, hy1, hy2⟩ : j0.zero = some (.agg #[.int .i64 0, .int .i64 0]) ∧ j0.size = 2 ∧ j0.bytes = 16 := by
    injection hj2 with h1 h2; injection h2 with h2 h3; exact ⟨h1, h2, h3⟩
  clear hj2
  replace hj := Lib.hid hj
  replace hy0 := Lib.hid hy0
  replace hy1 := Lib.hid hy1
  replace hy2 := Lib.hid hy2
  have htin := Lib.hid (fun i => try_in hn0 zs i)
  have hts := Lib.hid (fun k => try_snoc (nsL q).length zs k)
  go_wp2_with fail
  go_loopw [11, 12] (fun v i W => ∃ k : Nat, k ≤ 10 ∧ i = .int .i64 k ∧ Hid (W.ownsRow w4.heap.size 54 2 v k (cellsP (tryL (nsL q).length zs k))) ∧ Hid (Below w4.heap.size w4 W)) (fun _ i _ => 10 - (intOf i).toNat)
  case atStart => exact ⟨0, Nat.zero_le _, rfl, ⟨rfl, .inl ⟨rfl, rfl⟩⟩, Below.refl _ _⟩
  case round =>
    obtain ⟨k, hk, rfl, hown, hB⟩ := hrel
    by_cases hlt : k < 10
    · have hji : ((k : Nat) : Int) < 10 := by omega
      have hjd : decide (((k : Nat) : Int) < 10) = true := decide_eq_true hji
      by_cases hkz : k < zs.length
      · have hki : ((k : Nat) : Int) < ((zs.length : Nat) : Int) := by omega
        have hkd : decide (((k : Nat) : Int) < ((zs.length : Nat) : Int)) = true := decide_eq_true hki
        obtain ⟨b, off, rfl, hbz, hcz⟩ := (hZ4.out.later hB.out) (by intro e; subst e; simp at hkz)
        have c0 := hcz k hkz
        have hz := hz8 (zs.getD k 0) (by rw [List.getD_eq_getElem?_getD, List.getElem?_eq_getElem hkz]; exact List.getElem_mem _)
        have hfk : tryF (nsL q).length zs k = zs.getD k 0 % (((nsL q).length : Nat) : Int) := by unfold tryF; rw [if_pos hkz]
        have htk2 : Hid (cellsP (tryL (nsL q).length zs (k + 1)) = cellsP (tryL (nsL q).length zs k) ++ [.int .i64 (k : Int), .int .i64 (zs.getD k 0 % (((nsL q).length : Nat) : Int))]) := by
          show _ = _
          rw [hts.out, cellsP_append, hfk]; rfl
        clear hfk
        generalize zs.getD k 0 = z at c0 hz htk2
        have hwz : IntKind.i64.wrap z = z := wrap_i ⟨by omega, by omega⟩
        have hni : ¬ (((nsL q).length : Nat) : Int) = 0 := by omega
        have hnil : ¬ nsL q = [] := fun e => by rw [e] at hn0; exact absurd hn0 (by decide)
        have hnil2 : (nsL q == []) = false := by cases h : nsL q with | nil => exact absurd h hnil | cons a r => rfl
        have htm : Int.tmod z (((nsL q).length : Nat) : Int) = z % (((nsL q).length : Nat) : Int) := Int.tmod_eq_emod_of_nonneg (by omega)
        have hm1 := Int.emod_nonneg z hni
        have hm2 := Int.emod_lt_of_pos z (show (0 : Int) < (((nsL q).length : Nat) : Int) by omega)
        obtain ⟨b0, b1⟩ := kb.out _ (below_on hO4.out hB.out)
        have hS := Lib.hid (And.intro b0 c0)
        generalize hzm : z % (((nsL q).length : Nat) : Int) = zm at htm hm1 hm2 htk2
        replace hzm := Lib.hid hzm
        have hwm : IntKind.i64.wrap zm = zm := wrap_i ⟨by omega, by omega⟩
        go_wp2_with fail
        go_region_held3 (fun W => W.cell? ⟨w2.heap.size, 0, none⟩ = some (.slice A (nsL q).length (nsL q).length) ∧ W.cell? ⟨b, off + k, none⟩ = some (.int .u8 z)) (exact hS.out) (fail)
        have hbA : Hid (Below w4.heap.size w4 (wr.drew.alloc (.cells #[.int .i64 (k : Int), .int .i64 zm] 54))) := below_al hB.out.drew _
        have ho9 := Lib.hid (own_later (own_later hown.out (Below.drew (Below.refl _ _))) (later_alloc wr.drew (.cells #[.int .i64 (k : Int), .int .i64 zm] 54)))
        have hcc0 : Hid ((wr.drew.alloc (.cells #[.int .i64 (k : Int), .int .i64 zm] 54)).cell? ⟨wr.drew.heap.size, 0, none⟩ = some (.int .i64 (k : Int))) := cell_of_row _ _ 0 _ _ _ (World.alloc_heap_new wr.drew _)
        have hcc1 : Hid ((wr.drew.alloc (.cells #[.int .i64 (k : Int), .int .i64 zm] 54)).cell? ⟨wr.drew.heap.size, 1, none⟩ = some (.int .i64 zm)) := cell_of_row _ _ 1 _ _ _ (World.alloc_heap_new wr.drew _)
        go_wp2_with (at_builtin; refine wpList_append_own _ rfl _ _ 27 rfl w4.heap.size 54 j0 (.agg #[.int .i64 0, .int .i64 0]) 2 16 Tryd.underlying27 hj.out hy0.out hy1.out hy2.out rfl (by decide) _ _ _ rfl ho9.out ⟨wr.drew.heap.size, 0, none⟩ 1 1 [.int .i64 (k : Int), .int .i64 zm] rfl rfl ?c1 ?c2 ?c3 ?c4 ?c5 ?_)
        try case c1 =>
          intro j u hj
          match j, hj with
          | 0, hj => cases hj; exact hcc0.out
          | 1, hj => cases hj; exact hcc1.out
          | j + 2, hj => simp at hj
        try case c2 =>
          first
            | exact ⟨rfl, rfl⟩
            | (intro u hu; simp at hu; rcases hu with rfl | rfl <;> rfl)
        try case c3 => (first | omega | (unfold maxLen; omega))
        try case c4 => omega
        try case c5 => first | exact hbA.out.size | (have := hbA.out.size; rw [World.size_alloc] at this; exact this)
        · intro v2 w8 ho2 hg2 _
          have ho3 : Hid (w8.ownsRow w4.heap.size 54 2 v2 (k + 1) (cellsP (tryL (nsL q).length zs (k + 1)))) := by
            show w8.ownsRow _ _ _ _ _ _
            rw [htk2.out]
            exact ho2
          have hb8 : Hid (Below w4.heap.size w4 w8) := hbA.out.grown hg2 hbA.out.size (own_block ho9.out)
          clear ho2 hg2
          go_wp2_with fail
          go_roundw
          case rel => exact ⟨k + 1, by omega, by go_num, ho3.out, hb8.out⟩
          case measure => simp [intOf]; omega
      · have hki : ¬ ((k : Nat) : Int) < ((zs.length : Nat) : Int) := by omega
        have hkd : decide (((k : Nat) : Int) < ((zs.length : Nat) : Int)) = false := decide_eq_false hki
        have hfk : tryF (nsL q).length zs k = 0 := by unfold tryF; rw [if_neg hkz]
        have htk2 : Hid (cellsP (tryL (nsL q).length zs (k + 1)) = cellsP (tryL (nsL q).length zs k) ++ [.int .i64 (k : Int), .int .i64 0]) := by
          show _ = _
          rw [hts.out, cellsP_append, hfk]; rfl
        clear hfk
        have hbA : Hid (Below w4.heap.size w4 (wr.alloc (.cells #[.int .i64 (k : Int), .int .i64 0] 54))) := below_al hB.out _
        have ho9 := Lib.hid (own_later hown.out (later_alloc wr (.cells #[.int .i64 (k : Int), .int .i64 0] 54)))
        have hcc0 : Hid ((wr.alloc (.cells #[.int .i64 (k : Int), .int .i64 0] 54)).cell? ⟨wr.heap.size, 0, none⟩ = some (.int .i64 (k : Int))) := cell_of_row _ _ 0 _ _ _ (World.alloc_heap_new wr _)
        have hcc1 : Hid ((wr.alloc (.cells #[.int .i64 (k : Int), .int .i64 0] 54)).cell? ⟨wr.heap.size, 1, none⟩ = some (.int .i64 0)) := cell_of_row _ _ 1 _ _ _ (World.alloc_heap_new wr _)
        go_wp2_with (at_builtin; refine wpList_append_own _ rfl _ _ 27 rfl w4.heap.size 54 j0 (.agg #[.int .i64 0, .int .i64 0]) 2 16 Tryd.underlying27 hj.out hy0.out hy1.out hy2.out rfl (by decide) _ _ _ rfl ho9.out ⟨wr.heap.size, 0, none⟩ 1 1 [.int .i64 (k : Int), .int .i64 0] rfl rfl ?c1 ?c2 ?c3 ?c4 ?c5 ?_)
        try case c1 =>
          intro j u hj
          match j, hj with
          | 0, hj => cases hj; exact hcc0.out
          | 1, hj => cases hj; exact hcc1.out
          | j + 2, hj => simp at hj
        try case c2 =>
          first
            | exact ⟨rfl, rfl⟩
            | (intro u hu; simp at hu; rcases hu with rfl | rfl <;> rfl)
        try case c3 => (first | omega | (unfold maxLen; omega))
        try case c4 => omega
        try case c5 => first | exact hbA.out.size | (have := hbA.out.size; rw [World.size_alloc] at this; exact this)
        · intro v2 w8 ho2 hg2 _
          have ho3 : Hid (w8.ownsRow w4.heap.size 54 2 v2 (k + 1) (cellsP (tryL (nsL q).length zs (k + 1)))) := by
            show w8.ownsRow _ _ _ _ _ _
            rw [htk2.out]
            exact ho2
          have hb8 : Hid (Below w4.heap.size w4 w8) := hbA.out.grown hg2 hbA.out.size (own_block ho9.out)
          clear ho2 hg2
          go_wp2_with fail
          go_roundw
          case rel => exact ⟨k + 1, by omega, by go_num, ho3.out, hb8.out⟩
          case measure => simp [intOf]; omega
    · obtain rfl : k = 10 := by omega
      have ho := hown.out
      have hsl := try_len (nsL q).length zs 10
      have hs6 : ∀ p ∈ tryL (nsL q).length zs 10, I64 p.1 ∧ I64 p.2 := fun p hp => by
        obtain ⟨i, hi, rfl⟩ := List.mem_map.1 hp
        have hi := List.mem_range.1 hi
        have := try_in hn0 zs i
        exact ⟨⟨by show (-9223372036854775808 : Int) ≤ ((i : Nat) : Int); omega, by show ((i : Nat) : Int) ≤ 9223372036854775807; omega⟩, ⟨by show (-9223372036854775808 : Int) ≤ tryF (nsL q).length zs i; omega, by show tryF (nsL q).length zs i ≤ 9223372036854775807; omega⟩⟩
      obtain ⟨s, hs⟩ : ∃ s, tryL (nsL q).length zs 10 = s := ⟨_, rfl⟩
      rw [hs] at ho hsl hs6
      rw [← hsl] at ho
      have ho2 := ho
      obtain ⟨A7, c7, e7, hPs, -⟩ := prs_own ho
      rw [hsl] at e7
      subst e7
      have hok7 := own_ok ho2
      rw [hsl] at hok7
      have kst := kso.out s hs6 (by omega)
      rw [hsl] at kst
      have kvt := Lib.hid (fun (W : World) (h : Below W0.heap.size W0 W) (D : Option Addr) (cd : Nat) (hD : Prs W D s) => kvl.out W h D s cd hD (by omega))
      rw [hsl] at kvt
      have hP7 := Lib.hid hPs
      have hO7 := Lib.hid (below_on hO4.out hB.out)
      have hD7 := Lib.hid (hD4.out.later hB.out)
      have hR7 := Lib.hid (hR.out.later hB.out)
      obtain ⟨b0, b1⟩ := kb.out _ hO7.out
      replace hs := Lib.hid hs
      replace hsl := Lib.hid hsl
      replace kst := Lib.hid kst
      replace hok7 := Lib.hid hok7
      clear hown ho ho2 hPs kvl
      cases ok with
      | false =>
        obtain ⟨rfl, hno⟩ := hLT.no rfl
        have hns := hno s
        replace hLT := Lib.hid hLT
        have ks := kst.out wr hO7.out D cd hD7.out A7 c7 hP7.out hok7.out
        rw [hns] at ks
        replace ks := Lib.hid ks
        go_wp2_with fail
        refine ks.out.mono ?_
        rintro e w8 ⟨rfl, hb8⟩
        go_wp2_with fail
        go_ret
        exact ⟨rfl, below_on hB0.out (below_on hO7.out hb8)⟩
      | true =>
        obtain ⟨hfst, hyes, hleast⟩ := hLT.yes rfl
        have hr9 : r.length ≤ 60 := by
          have h1 := ord_len (lt := ltI) ((atomsL c).flatMap pickV)
          have h2 := pick_len pickV_len (atomsL c)
          rw [atoms_len] at h2
          have h3 : (r.map (·.1)).length = (varsL c).length := by rw [hfst]
          rw [List.length_map] at h3
          unfold varsL at h3
          omega
        have kss := kso.out r hr6.out (by omega)
        have ks := kss wr hO7.out D cd hD7.out R cr hR7.out okR
        rw [hyes] at ks
        replace ks := Lib.hid ks
        have hle := Lib.hid (hleast s)
        replace hLT := Lib.hid hLT
        obtain ⟨n, hn⟩ : ∃ n, r.length = n := ⟨_, rfl⟩
        rw [hn] at ks hr9 ⊢
        replace hn := Lib.hid hn
        clear kss hfst
        go_wp2_with fail
        refine ks.out.mono ?_
        rintro e w8 ⟨rfl, hb8⟩
        have hO8 := Lib.hid (below_on hO7.out hb8)
        have hP8 := Lib.hid (hP7.out.later hb8)
        have hR8 := Lib.hid (hR7.out.later hb8)
        have ks2 := kst.out w8 hO8.out D cd (hD7.out.later hb8) A7 c7 hP8.out hok7.out
        replace ks2 := Lib.hid ks2
        obtain ⟨b0, b1⟩ := kb.out _ hO8.out
        clear hb8 ks
        go_wp2_with fail
        refine ks2.out.mono ?_
        rintro e w9 ⟨rfl, hb9⟩
        have hO9 := Lib.hid (below_on hO8.out hb9)
        have hP9 := Lib.hid (hP8.out.later hb9)
        have hR9 := Lib.hid (hR8.out.later hb9)
        clear hb9 ks2
        cases hsv : solvesT (nsL q) (usL q) c s with
        | false =>
          replace hsv := Lib.hid hsv
          go_wp2_with fail
          go_ret
          exact ⟨rfl, below_on hB0.out hO9.out⟩
        | true =>
          have hle2 := Lib.hid (hle.out hsv)
          replace hsv := Lib.hid hsv
          go_wp2_with fail
          go_loopw [14] (fun i W => ∃ j : Nat, j ≤ n ∧ i = .int .i64 j ∧ Hid (Below w9.heap.size w9 W)) (fun i _ => n - (intOf i).toNat)
          case atStart => exact ⟨0, Nat.zero_le _, rfl, Below.refl _ _⟩
          case round =>
            clear hB
            obtain ⟨j, hj, rfl, hB⟩ := hrel
            by_cases hlt2 : j < n
            · have hjr : j < r.length := by rw [hn.out]; exact hlt2
              obtain ⟨bR, oR, rfl, hbR, ra⟩ := (hR9.out.later hB.out) (by intro e; subst e; simp at hjr)
              obtain ⟨c0, c1⟩ := ra j hjr
              clear ra
              have hmem : r.getD j (0, 0) ∈ r := by rw [List.getD_eq_getElem?_getD, List.getElem?_eq_getElem hjr]; exact List.getElem_mem _
              have hq1 := hle2.out _ hmem
              have hq6 := (hr6.out _ hmem).1
              clear hmem
              generalize r.getD j (0, 0) = x at c0 c1 hq1 hq6
              obtain ⟨v, xp⟩ := x
              dsimp only at c0 c1 hq1 hq6
              have kv9 := Lib.hid (fun (W : World) (h : Below wr.heap.size wr W) => kvt.out W (below_on (below_on hO9.out hB.out) h) A7 c7 ((hP9.out.later hB.out).later h) v hq6)
              generalize valueT (nsL q) (usL q) s v = va at kv9 hq1
              have klq := Lib.hid (fun (W : World) (h : Below wr.heap.size wr W) => L.leq_any A B (usL q) (nsL q).length (nsL q).length (usL q).length xp va W (own.out W (below_on (below_on hO9.out hB.out) h)).lat.words (own.out W (below_on (below_on hO9.out hB.out) h)).lat.w64 hu)
              rw [hq1] at klq
              have hkeep : Hid (∀ W : World, Below wr.heap.size wr W → (W.cell? ⟨w2.heap.size, 0, none⟩ = some (.slice A (nsL q).length (nsL q).length) ∧ W.cell? ⟨w2.heap.size, 1, none⟩ = some (.slice B (usL q).length (usL q).length)) ∧ W.cell? ⟨bR, oR + j * 2, none⟩ = some (.int .i64 v) ∧ W.cell? ⟨bR, oR + j * 2 + 1, none⟩ = some (.int .i64 xp)) := fun W h =>
                ⟨kb.out W (below_on (below_on hO9.out hB.out) h), (h.cell (p := ⟨bR, oR + j * 2, none⟩) hbR).trans c0, (h.cell (p := ⟨bR, oR + j * 2 + 1, none⟩) hbR).trans c1⟩
              have hG : Hid (Below wr.heap.size wr wr) := Lib.hid (Below.refl _ _)
              have hji : ((j : Nat) : Int) < ((n : Nat) : Int) := by omega
              have hjd : decide (((j : Nat) : Int) < ((n : Nat) : Int)) = true := decide_eq_true hji
              replace hq1 := Lib.hid hq1
              clear c0 c1
              go_wp2_with fail
              go_region_held3 (fun W => (W.cell? ⟨w2.heap.size, 0, none⟩ = some (.slice A (nsL q).length (nsL q).length) ∧ W.cell? ⟨w2.heap.size, 1, none⟩ = some (.slice B (usL q).length (usL q).length)) ∧ W.cell? ⟨bR, oR + j * 2, none⟩ = some (.int .i64 v) ∧ W.cell? ⟨bR, oR + j * 2 + 1, none⟩ = some (.int .i64 xp))
                ((refine hkeep.out _ ?_; repeat (first | with_reducible exact hG.out | with_reducible refine Below.drew ?_)))
                (first
                  | (go_at_call 17; refine (kv9.out _ (by repeat (first | with_reducible exact hG.out | with_reducible refine Below.drew ?_))).mono ?_; rintro e w6 ⟨rfl, hb6⟩; replace hG : Hid (Below wr.heap.size wr w6) := Lib.hid (below_on (by repeat (first | with_reducible exact hG.out | with_reducible refine Below.drew ?_)) hb6); clear hb6)
                  | (go_at_call 23; refine (klq.out _ (by repeat (first | with_reducible exact hG.out | with_reducible refine Below.drew ?_))).mono ?_; rintro e w6 ⟨rfl, hb6⟩; replace hG : Hid (Below wr.heap.size wr w6) := Lib.hid (below_on (by repeat (first | with_reducible exact hG.out | with_reducible refine Below.drew ?_)) hb6); clear hb6))
              all_goals
                go_wp2_with fail
                go_roundw
                case rel => exact ⟨j + 1, by omega, by go_num, below_on hB.out hG.out⟩
                case measure => simp [intOf]; omega
            · obtain rfl : j = n := by omega
              go_wp2_with fail
              go_ret
              exact ⟨rfl, below_on hB0.out (below_on hO9.out hB.out)⟩
end Go.Proofs.YtlhfdedjboanfaaDoor
