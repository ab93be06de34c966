/-
  Compact over pairs. Condition: the row lies in a block of the call's own.
-/
import Derived.Test.YtkagmkejndjepaaGreatDoorAtComp
namespace Go.Proofs.YtkagmkejndjepaaGreatDoor
open Go.RowKit Go.Shelf Go.At Go.Lib Go.Sort
attribute [local go_sem] Oper.semAt_some

theorem compact_self (d : Array Pr) (h : ∀ j, j < d.size → keeps d j = true) : d.toList = compactUpTo d d.size := by
  rw [compactUpTo_all d _ h, range_map_get]
set_option maxRecDepth 100000 in
set_option maxHeartbeats 4000000 in
theorem compactP_any (g cap : Nat) (d : Array Pr) (w : World) (hA : PArr w g d) (hsz : d.size ≤ 8796093022208) (hcap : d.size ≤ cap) :
    Calls Tryz.prog 45 #[.slice (some ⟨g, 0, none⟩) d.size cap] w fun e w' => ∃ d' : Array Pr, e = .returned (.slice (some ⟨g, 0, none⟩) d'.size cap) ∧ d'.toList = compactUpTo d d.size ∧ PArr w' g d' ∧ Below g w w' := by
  obtain ⟨n, hn⟩ : ∃ n, d.size = n := ⟨_, rfl⟩
  have hnn := hn
  rw [hn] at hsz hcap ⊢
  replace hn := Lib.hid hn
  by_cases h2 : n < 2
  · have hk : Hid (d.toList = compactUpTo d n) := by
      have := compact_self d (fun j hj => keeps_lt_one d j (by omega))
      rw [hnn] at this
      exact this
    have hd2 : decide ((n : Int) < 2) = true := decide_eq_true (by omega)
    have hd3 : (n : Int) < 2 := by omega
    clear hnn
    replace hA := Lib.hid hA
    go_enter Tryz.func45, Tryz.ntmps45
    go_wp2_with fail
    go_ret
    exact ⟨d, by rw [hn.out]; rfl, hk.out, hA.out, Below.refl _ _⟩
  · have hd2 : decide ((n : Int) < 2) = false := decide_eq_false (by omega)
    have hd3 : ¬ (n : Int) < 2 := by omega
    clear hnn
    replace hA := Lib.hid hA
    go_enter Tryz.func45, Tryz.ntmps45
    go_wp2_with fail
    go_loopw [3] (fun i wr => ∃ m : Nat, m + 1 ≤ n ∧ i = .int .i64 ((m : Int) + 1) ∧ Hid (∀ j, j < m + 1 → keeps d j = true) ∧ Hid (PArr wr g d) ∧ Hid (Below g w wr)) (fun i _ => n - (intOf i).toNat)
    case atStart => exact ⟨0, by omega, by first | rfl | trivial, keeps_lt_one d, hA.out, Below.refl _ _⟩
    case round =>
      clear hA
      obtain ⟨m, hk, rfl, hall, hP, hB⟩ := hrel
      by_cases hlt : m + 1 < n
      · obtain ⟨c0, c1⟩ := hP.out.cell (j := m + 1) (by rw [hn.out]; exact hlt)
        obtain ⟨e0, e1⟩ := hP.out.cell (j := m) (by rw [hn.out]; omega)
        have hkp : Hid (d[m + 1]! ≠ d[m]! → ∀ j, j < m + 2 → keeps d j = true) := fun h j hj => by
          by_cases e : j = m + 1
          · subst e; exact keeps_pos h
          · exact hall.out j (by omega)
        have hkn : Hid (d[m + 1]! = d[m]! → CompInv d (m + 2) (m + 1) d) := fun h => CompInv.start hall.out (keeps_neg (by omega) h)
        have hsame := Lib.hid (sameP_iff d[m + 1]! d[m]!)
        have hwk : IntKind.i64.wrap (m : Int) = (m : Int) := wrap_i ⟨by omega, by omega⟩
        have hb1 : (m : Int) < (n : Int) := by omega
        have hb2 : (m : Int) + 1 < (n : Int) := by omega
        have hb3 : (0 : Int) ≤ (m : Int) + 1 := by omega
        generalize d[m + 1]! = x at c0 c1 hkp hkn hsame
        generalize d[m]! = y at e0 e1 hkp hkn hsame
        obtain ⟨x0, x1⟩ := x
        obtain ⟨y0, y1⟩ := y
        dsimp only at c0 c1 e0 e1
        have heq : ∀ w, Sem.run Tryz.prog (binOp .eql 53 (.agg #[.int .i64 x0, .int .i64 x1]) (.agg #[.int .i64 y0, .int .i64 y1])) w = .ok (.bool (sameP x0 x1 y0 y1)) w := eqPair x0 x1 y0 y1
        have hgd : ∀ (op : BinOp) (a b : Operand) w, Sem.run Tryz.prog (eqGuard op 53 a b (.agg #[.int .i64 x0, .int .i64 x1]) (.agg #[.int .i64 y0, .int .i64 y1])) w = .ok () w := fun op a b w => guardPair op a b _ _ w
        cases hs : sameP x0 x1 y0 y1 with
        | false =>
          have hnx : Hid (∀ j, j < m + 2 → keeps d j = true) := hkp.out (fun h => by
            have := hsame.out.2 h
            rw [hs] at this
            cases this)
          rw [hs] at heq
          replace hs := Lib.hid hs
          go_wp2_with fail
          go_region_held3 (fun W => W.cell? ⟨g, (m + 1) * 2, none⟩ = some (.int .i64 x0) ∧ W.cell? ⟨g, (m + 1) * 2 + 1, none⟩ = some (.int .i64 x1) ∧ W.cell? ⟨g, m * 2, none⟩ = some (.int .i64 y0) ∧ W.cell? ⟨g, m * 2 + 1, none⟩ = some (.int .i64 y1)) (exact ⟨c0, c1, e0, e1⟩) (fail)
          all_goals
            go_wp2_with fail
            go_roundw
            case rel => exact ⟨m + 1, by omega, by go_num, hnx.out, hP.out, hB.out.drew⟩
            case measure => simp [intOf]; omega
        | true =>
          have hI := Lib.hid (hkn.out (hsame.out.1 hs))
          rw [hs] at heq
          replace hs := Lib.hid hs
          go_wp2_with fail
          go_region_held3 (fun W => W.cell? ⟨g, (m + 1) * 2, none⟩ = some (.int .i64 x0) ∧ W.cell? ⟨g, (m + 1) * 2 + 1, none⟩ = some (.int .i64 x1) ∧ W.cell? ⟨g, m * 2, none⟩ = some (.int .i64 y0) ∧ W.cell? ⟨g, m * 2 + 1, none⟩ = some (.int .i64 y1)) (exact ⟨c0, c1, e0, e1⟩) (fail)
          have hPd : Hid (PArr wr.drew g d) := hP.out
          have hBd : Hid (Below g w wr.drew) := hB.out.drew
          have hmc : m + 1 < cap := by omega
          have hmi : (m : Int) + 1 ≤ (n : Int) := by omega
          have hlen : ((n - (m + 1) : Nat) : Int) = (n : Int) - ((m : Int) + 1) := by omega
          obtain ⟨V, hV⟩ : ∃ V, wr.drew = V := ⟨_, rfl⟩
          rw [hV] at hPd hBd ⊢
          clear hV hP hB c0 c1 e0 e1 hkp hkn heq hgd hsame hall
          go_wp2_with fail
          obtain ⟨r, hr⟩ : ∃ r, n - (m + 1) = r := ⟨_, rfl⟩
          obtain ⟨cr, hcr⟩ : ∃ cr, cap - (m + 1) = cr := ⟨_, rfl⟩
          rw [hr, hcr]
          have hr2 : r ≤ 8796093022208 := by omega
          replace hr := Lib.hid hr
          replace hcr := Lib.hid hcr
          clear hlen
          go_loopw [3, 5] (fun a i wr => ∃ (kk j : Nat) (dk : Array Pr), a = .int .i64 kk ∧ i = .int .i64 ((j : Int) + 1) ∧ j + 1 ≤ r ∧ Hid (CompInv d (m + j + 2) kk dk) ∧ Hid (PArr wr g dk) ∧ Hid (Below g w wr)) (fun _ i _ => r - (intOf i).toNat)
          case atStart => exact ⟨m + 1, 0, d, by go_num, by first | rfl | trivial, by have := hr.out; omega, hI.out, hPd.out, hBd.out⟩
          case round =>
            clear hPd hBd hI
            obtain ⟨kk, j, dk, rfl, rfl, hj, hI, hP, hB⟩ := hrel
            have hds : Hid (dk.size = n) := by rw [Hid]; rw [hI.out.size]; exact hn.out
            have hkk : Hid (kk < m + j + 2) := hI.out.lt
            by_cases hlt2 : j + 1 < r
            · obtain ⟨c0, c1⟩ := hP.out.cell (j := m + j + 2) (by have := hds.out; have := hr.out; omega)
              obtain ⟨e0, e1⟩ := hP.out.cell (j := m + j + 1) (by have := hds.out; have := hr.out; omega)
              obtain ⟨o0, o1⟩ := hP.out.cell (j := kk) (by have := hds.out; have := hr.out; have := hkk.out; omega)
              have f0 := hP.out.frozen (kk * 2)
              have f1 := hP.out.frozen (kk * 2 + 1)
              rw [hI.out.high (m + j + 2) (by have := hkk.out; omega), show (m + j + 2) * 2 = (m + 1) * 2 + (j + 1) * 2 by omega] at c0 c1
              rw [hI.out.high (m + j + 1) (by have := hkk.out; omega), show (m + j + 1) * 2 = (m + 1) * 2 + j * 2 by omega] at e0 e1
              have hkp : Hid (d[m + j + 2]! ≠ d[m + j + 1]! → CompInv d (m + j + 2 + 1) (kk + 1) (dk.setIfInBounds kk d[m + j + 2]!)) := fun h => hI.out.keep (by have := hn.out; have := hr.out; omega) (keeps_pos h)
              have hkn : Hid (d[m + j + 2]! = d[m + j + 1]! → CompInv d (m + j + 2 + 1) kk dk) := fun h => hI.out.skip (keeps_neg (by omega) h)
              have hput := Lib.hid (fun W (hW : Below wr.heap.size wr W) => (hP.out.block (hW.block g hP.out.lt)).put (i := kk) (by have := hds.out; have := hr.out; have := hkk.out; omega) d[m + j + 2]!)
              have hsame := Lib.hid (sameP_iff d[m + j + 2]! d[m + j + 1]!)
              have hkn3 : kk < n := by have := hr.out; have := hkk.out; omega
              have hkn4 : (kk : Int) < (n : Int) := by omega
              have hkn5 : kk ≤ 8796093022208 := by omega
              have hwj : IntKind.i64.wrap (j : Int) = (j : Int) := wrap_i ⟨by omega, by omega⟩
              have hb1 : (j : Int) < (r : Int) := by omega
              have hb2 : (j : Int) + 1 < (r : Int) := by omega
              have hb3 : (0 : Int) ≤ (j : Int) + 1 := by omega
              generalize d[m + j + 2]! = x at c0 c1 hkp hkn hsame hput
              generalize d[m + j + 1]! = y at e0 e1 hkp hkn hsame
              generalize dk[kk]!.1 = z0 at o0
              generalize dk[kk]!.2 = z1 at o1
              obtain ⟨x0, x1⟩ := x
              obtain ⟨y0, y1⟩ := y
              dsimp only at c0 c1 e0 e1 hput
              have heq : ∀ w, Sem.run Tryz.prog (binOp .neq 53 (.agg #[.int .i64 x0, .int .i64 x1]) (.agg #[.int .i64 y0, .int .i64 y1])) w = .ok (.bool (!sameP x0 x1 y0 y1)) w := nePair x0 x1 y0 y1
              have hgd : ∀ (op : BinOp) (a b : Operand) w, Sem.run Tryz.prog (eqGuard op 53 a b (.agg #[.int .i64 x0, .int .i64 x1]) (.agg #[.int .i64 y0, .int .i64 y1])) w = .ok () w := fun op a b w => guardPair op a b _ _ w
              cases hs : sameP x0 x1 y0 y1 with
              | true =>
                have hJ := Lib.hid (hkn.out (hsame.out.1 hs))
                rw [hs] at heq
                simp only [Bool.not_true] at heq
                replace hs := Lib.hid hs
                go_wp2_with fail
                go_region_held3 (fun W => W.cell? ⟨g, (m + 1) * 2 + (j + 1) * 2, none⟩ = some (.int .i64 x0) ∧ W.cell? ⟨g, (m + 1) * 2 + (j + 1) * 2 + 1, none⟩ = some (.int .i64 x1) ∧ W.cell? ⟨g, (m + 1) * 2 + j * 2, none⟩ = some (.int .i64 y0) ∧ W.cell? ⟨g, (m + 1) * 2 + j * 2 + 1, none⟩ = some (.int .i64 y1)) (exact ⟨c0, c1, e0, e1⟩) (fail)
                all_goals
                  go_wp2_with fail
                  go_roundw
                  case rel => exact ⟨kk, j + 1, dk, rfl, by go_num, by omega, hJ.out, hP.out, hB.out.drew⟩
                  case measure => simp [intOf]; omega
              | false =>
                have hJ := Lib.hid (hkp.out (fun h => by
                  have := hsame.out.2 h
                  rw [hs] at this
                  cases this))
                rw [hs] at heq
                simp only [Bool.not_false] at heq
                replace hs := Lib.hid hs
                go_wp2_with fail
                go_region_held3 (fun W => W.cell? ⟨g, (m + 1) * 2 + (j + 1) * 2, none⟩ = some (.int .i64 x0) ∧ W.cell? ⟨g, (m + 1) * 2 + (j + 1) * 2 + 1, none⟩ = some (.int .i64 x1) ∧ W.cell? ⟨g, (m + 1) * 2 + j * 2, none⟩ = some (.int .i64 y0) ∧ W.cell? ⟨g, (m + 1) * 2 + j * 2 + 1, none⟩ = some (.int .i64 y1)) (exact ⟨c0, c1, e0, e1⟩) (fail)
                all_goals
                  go_wp2_with fail
                  go_roundw
                  case rel => exact ⟨kk + 1, j + 1, _, by go_num, by go_num, by omega, hJ.out, hput.out wr (Below.refl _ _), (hB.out.drew.setCell (p := ⟨g, kk * 2, none⟩) (Nat.le_refl _) _).setCell (p := ⟨g, kk * 2 + 1, none⟩) (Nat.le_refl _) _⟩
                  case measure => simp [intOf]; omega
            · obtain rfl : r = j + 1 := by omega
              have hnl : ¬ (j : Int) + 1 < (j : Int) + 1 := by omega
              have hmj : m + j + 2 = n := by have := hr.out; omega
              have hkn3 : kk < n := by have := hkk.out; omega
              have hcl : ∀ ty, (Builtin.clear_ #[22] ty #[.slice (some ⟨g, kk * 2, none⟩) (n - kk) (cap - kk)]).run Tryz.prog wr = .ok (.tuple #[]) (wr.setCells g (kk * 2) (List.replicate ((n - kk) * 2) (.int .i64 0))) := fun ty =>
                run_clearP wr ty g (kk * 2) (n - kk) (cap - kk) (by omega) (fun j' hj' => by
                  obtain ⟨c0, c1⟩ := hP.out.cell (j := (kk * 2 + j') / 2) (by have := hds.out; omega)
                  rcases (show (kk * 2 + j') % 2 = 0 ∨ (kk * 2 + j') % 2 = 1 by omega) with h | h
                  · rw [show kk * 2 + j' = (kk * 2 + j') / 2 * 2 by omega, c0]; rfl
                  · rw [show kk * 2 + j' = (kk * 2 + j') / 2 * 2 + 1 by omega, c1]; rfl) (fun j' _ => hP.out.frozen _)
              have hfin : Hid (∃ d' : Array Pr, d'.size = kk ∧ d'.toList = compactUpTo d n ∧ PArr (wr.setCells g (kk * 2) (List.replicate ((n - kk) * 2) (.int .i64 0))) g d' ∧ Below g wr (wr.setCells g (kk * 2) (List.replicate ((n - kk) * 2) (.int .i64 0)))) := by
                have hl := hI.out.len
                have hlow := hI.out.low
                rw [hmj] at hl hlow
                have hsz9 : (compactUpTo d n).toArray.size = kk := by simpa using hl
                obtain ⟨q1, q2⟩ := hP.out.cleared (d' := (compactUpTo d n).toArray) (s := kk * 2) (by rw [hsz9]; exact Nat.le_refl _) (by rw [hsz9]; have := hds.out; omega) (fun j' hj' => by
                  rw [hsz9] at hj'
                  have h1 := hlow j' hj'
                  rw [getElem!_pos _ j' (by rw [hsz9]; exact hj')]
                  rw [List.getElem?_eq_getElem (by omega)] at h1
                  simpa using h1) (List.replicate ((n - kk) * 2) (.int .i64 0))
                exact ⟨_, hsz9, rfl, q1, q2⟩
              have hkc : kk < cap := by omega
              have hkci : (kk : Int) ≤ (n : Int) := by omega
              replace hmj := Lib.hid hmj
              go_wp2_with fail
              go_ret
              obtain ⟨d', e1, e2, e3, e4⟩ := hfin.out
              exact ⟨d', by rw [e1]; rfl, e2, e3, hB.out.trans e4⟩
      · obtain rfl : n = m + 1 := by omega
        have hkk : Hid (d.toList = compactUpTo d (m + 1)) := by
          have := compact_self d (by rw [hn.out]; exact hall.out)
          rw [hn.out] at this
          exact this
        have hnl : ¬ (m : Int) + 1 < (m : Int) + 1 := by omega
        go_wp2_with fail
        go_ret
        exact ⟨d, by rw [hn.out]; rfl, hkk.out, hP.out, hB.out⟩
end Go.Proofs.YtkagmkejndjepaaGreatDoor
