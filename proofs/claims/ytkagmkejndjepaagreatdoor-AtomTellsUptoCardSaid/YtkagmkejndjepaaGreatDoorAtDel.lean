/-
  DeleteFunc over pairs, by Norm's first closure. Condition: the row lies in a block of the call's own.
-/
import Derived.Test.YtkagmkejndjepaaGreatDoorAtArr
namespace Go.Proofs.YtkagmkejndjepaaGreatDoor
open Go.RowKit Go.Shelf Go.At Go.Lib
attribute [local go_sem] Oper.semAt_some

theorem idxFrom_spec (p : Pr → Bool) : ∀ (l : List Pr) (i : Nat), (Lib.idxByFrom (fun _ y => p y) (default : Pr) l i = -1 ∧ ∀ j, j < l.length → p l[j]! = false) ∨ ∃ k, k < l.length ∧ Lib.idxByFrom (fun _ y => p y) (default : Pr) l i = ((i + k : Nat) : Int) ∧ p l[k]! = true ∧ ∀ j, j < k → p l[j]! = false
  | [], _ => .inl ⟨rfl, fun j hj => absurd hj (Nat.not_lt_zero _)⟩
  | y :: r, i => by
    cases h : p y with
    | true => exact .inr ⟨0, by simp, by simp [Lib.idxByFrom, h], by simpa using h, fun j hj => absurd hj (Nat.not_lt_zero _)⟩
    | false =>
      rcases idxFrom_spec p r (i + 1) with ⟨e, ha⟩ | ⟨k, hk, e, ht, ha⟩
      · refine .inl ⟨by simp [Lib.idxByFrom, h, e], fun j hj => ?_⟩
        cases j with
        | zero => simpa using h
        | succ j => simpa using ha j (by simpa using hj)
      · refine .inr ⟨k + 1, by simpa using hk, by simp only [Lib.idxByFrom, h]; rw [show (if false = true then (i : Int) else Lib.idxByFrom (fun _ y => p y) (default : Pr) r (i + 1)) = Lib.idxByFrom (fun _ y => p y) (default : Pr) r (i + 1) from rfl, e]; congr 1; omega, by simpa using ht, fun j hj => ?_⟩
        cases j with
        | zero => simpa using h
        | succ j => simpa using ha j (by omega)
def encP (p : Pr) : List Value := [.int .i64 p.1, .int .i64 p.2]
/-- nothing is struck -/
def strike (p : Pr) : Bool := !unlike p

set_option maxRecDepth 100000 in
theorem index_any (g cap : Nat) (d : Array Pr) (w : World) (hA : PArr w g d) (hsz : d.size ≤ 9223372036854775807) :
    Calls Tryz.prog 59 #[.slice (some ⟨g, 0, none⟩) d.size cap, .func (.func 40) #[] #[]] w fun e w' => e = .returned (.int .i64 (Lib.idxBy (fun _ y => strike y) d.toList default)) ∧ Below w.heap.size w w' := by
  have h := AnyQ.slices_IndexFunc Tryz.indexP 2 Tryz.isAgg53 Tryz.sizeOf53 encP (fun _ => rfl) strike 40 #[] fnDel1 g 0 d.size cap d.toList w
    (fun W x hW => (show Calls Tryz.prog 40 #[.agg #[.int .i64 x.1, .int .i64 x.2]] W _ from del1_any x W).mono fun e w' h => ⟨h.1, hW.trans (h.2.mono hW.size)⟩) (by simp) hsz hA.lt
    (fun j hj i v hi => by
      have hj' : j < d.size := by simpa using hj
      have e : d.toList[j]! = d[j]! := by rw [getElem!_pos d j hj', getElem!_pos d.toList j hj]; simp
      rw [e] at hi
      obtain ⟨c0, c1⟩ := hA.cell hj'
      rw [Nat.zero_add]
      match i, hi with
      | 0, hi => cases hi; exact c0
      | 1, hi => cases hi; exact c1
      | i + 2, hi => simp [encP] at hi)
  rw [show d.toList.take d.size = d.toList from List.take_of_length_le (by simp)] at h
  exact h

set_option maxRecDepth 100000 in
set_option maxHeartbeats 4000000 in
theorem delete_any (g cap : Nat) (d : Array Pr) (w : World) (hA : PArr w g d) (hsz : d.size ≤ 8796093022208) (hcap : d.size ≤ cap) :
    Calls Tryz.prog 38 #[.slice (some ⟨g, 0, none⟩) d.size cap, .func (.func 40) #[] #[]] w fun e w' => ∃ d' : Array Pr, e = .returned (.slice (some ⟨g, 0, none⟩) d'.size cap) ∧ d'.toList = d.toList.filter unlike ∧ PArr w' g d' ∧ Below g w w' := by
  have hI := index_any g cap d w hA (by omega)
  have tl : ∀ j, j < d.size → d.toList[j]! = d[j]! := fun j hj => by rw [getElem!_pos d j hj, getElem!_pos d.toList j (by simpa using hj)]; simp
  have hglt := hA.lt
  obtain ⟨kp, HK⟩ : ∃ kp : Nat → Bool, Hid (kp = fun j => unlike d[j]!) := ⟨_, rfl⟩
  have hfil : Hid (d.toList.filter unlike = keptUpTo kp d d.size) := by
    show _ = _
    rw [HK.out]; exact (keptUpTo_filter unlike d).symm
  rcases idxFrom_spec strike d.toList 0 with ⟨e1, hall⟩ | ⟨k0, hk0, e1, ht, hall⟩
  · have e2 : Lib.idxBy (fun _ y => strike y) d.toList default = -1 := e1
    rw [e2] at hI
    have hkeep : ∀ j, j < d.size → kp j = true := fun j hj => by
      rw [HK.out]
      have := hall j (by simpa using hj)
      rw [tl j hj] at this
      unfold strike at this
      simpa using this
    have e3 : d.toList.filter unlike = d.toList := by rw [hfil.out, keptUpTo_all kp d _ hkeep, range_map_get]
    replace e3 := Lib.hid e3
    replace hA := Lib.hid hA
    clear hall tl hkeep e1 e2
    replace hI := Lib.hid hI
    go_enter Tryz.func38, Tryz.ntmps38
    go_wp2_with (go_at_call 59; refine hI.out.mono ?_; rintro e w1 ⟨rfl, hb1⟩; replace hb1 := Lib.hid hb1)
    go_ret
    exact ⟨d, rfl, e3.out.symm, hA.out.block (hb1.out.block g hglt), hb1.out.mono (by omega)⟩
  · have hk0' : k0 < d.size := by simpa using hk0
    have e2 : Lib.idxBy (fun _ y => strike y) d.toList default = (k0 : Int) := by unfold Lib.idxBy; rw [e1]; simp
    rw [e2] at hI
    have hkeep : ∀ j, j < k0 → kp j = true := fun j hj => by
      rw [HK.out]
      have := hall j hj
      rw [tl j (by omega)] at this
      unfold strike at this
      simpa using this
    have hdrop : kp k0 = false := by
      rw [HK.out]
      rw [tl k0 hk0'] at ht
      unfold strike at ht
      simpa using ht
    have hst := Lib.hid (KeptInv.start (d := d) hkeep hdrop)
    have hne1 : ((k0 : Int) == -1) = false := beq_eq_false_iff_ne.2 (by omega)
    replace hA := Lib.hid hA
    replace hI := Lib.hid hI
    clear hall tl hkeep hdrop e1 e2 ht
    obtain ⟨n, hn⟩ : ∃ n, d.size = n := ⟨_, rfl⟩
    rw [hn] at hsz hcap hk0' hI ⊢
    replace hn := Lib.hid hn
    go_enter Tryz.func38, Tryz.ntmps38
    go_wp2_with (go_at_call 59; refine hI.out.mono ?_; rintro e w1 ⟨rfl, hb1⟩; replace hb1 := Lib.hid hb1)
    have hA1 : Hid (PArr w1 g d) := hA.out.block (hb1.out.block g hglt)
    have hB1 : Hid (Below g w w1) := hb1.out.mono (by omega)
    clear hA hI hb1
    go_loopw [5, 6] (fun i j wr => ∃ (ki kj : Nat) (dk : Array Pr), i = .int .i64 ki ∧ j = .int .i64 kj ∧ kj ≤ n ∧ ki < kj ∧ Hid (KeptInv kp d kj ki dk) ∧ Hid (PArr wr g dk) ∧ Hid (Below g w wr)) (fun _ j _ => n - (intOf j).toNat)
    case atStart => exact ⟨k0, k0 + 1, d, rfl, by go_num, by omega, by omega, hst.out, hA1.out, hB1.out⟩
    case round =>
      clear hst hA1 hB1
      obtain ⟨ki, kj, dk, rfl, rfl, hkj, hij, hK, hP, hB⟩ := hrel
      have hds : dk.size = n := by rw [hK.out.size]; exact hn.out
      by_cases hlt : kj < n
      · have hltz : (kj : Int) < (n : Int) := by omega
        obtain ⟨c0, c1⟩ := hP.out.cell (j := kj) (by omega)
        obtain ⟨o0, o1⟩ := hP.out.cell (j := ki) (by omega)
        rw [hK.out.high kj (by omega)] at c0 c1
        have hdn : d.size = n := hn.out
        have hkeepS : Hid (kp kj = true → KeptInv kp d (kj + 1) (ki + 1) (dk.setIfInBounds ki d[kj]!)) := fun h => hK.out.keep (by omega) h
        have hskip : Hid (kp kj = false → KeptInv kp d (kj + 1) ki dk) := fun h => hK.out.skip h
        have hkp : Hid (kp kj = unlike d[kj]!) := by show _ = _; rw [HK.out]
        have hput : Hid (∀ W, Below wr.heap.size wr W → PArr ((W.setCell ⟨g, ki * 2, none⟩ (.int .i64 d[kj]!.1)).setCell ⟨g, ki * 2 + 1, none⟩ (.int .i64 d[kj]!.2)) g (dk.setIfInBounds ki d[kj]!)) := fun W hW => (hP.out.block (hW.block g hP.out.lt)).put (by omega) _
        have hgr := Lib.hid hP.out.lt
        have f0 := hP.out.frozen (ki * 2)
        have f1 := hP.out.frozen (ki * 2 + 1)
        generalize d[kj]! = q at c0 c1 hkeepS hkp hput
        generalize dk[ki]!.1 = y0 at o0
        generalize dk[ki]!.2 = y1 at o1
        obtain ⟨x0, x1⟩ := q
        dsimp only at c0 c1 hput
        have kd := Lib.hid (fun W => del1_any (x0, x1) W)
        cases hu : unlike (x0, x1) with
        | true =>
          have hu2 : (!unlike (x0, x1)) = false := by rw [hu]; rfl
          have kd1 := kd.out
          rw [hu2] at kd1
          replace kd1 := Lib.hid kd1
          clear kd
          have hkk := Lib.hid (hkeepS.out (by rw [hkp.out, hu]))
          replace hu := Lib.hid hu
          replace hu2 := Lib.hid hu2
          go_wp2_with (go_at_call 40; refine (kd1.out _).mono ?_; rintro e w2 ⟨rfl, hb2⟩; have hbW : Hid (Below wr.heap.size wr w2) := (later_alloc wr (.cells #[.int .i64 x0, .int .i64 x1] 53)).trans (hb2.mono (by simp)); have b0 : w2.cell? ⟨wr.heap.size, 0, none⟩ = some (.int .i64 x0) := (hb2.cell (p := ⟨wr.heap.size, 0, none⟩) (by simp)).trans (cell_of_row _ _ 0 _ _ _ (World.alloc_heap_new wr _)); have b1 : w2.cell? ⟨wr.heap.size, 1, none⟩ = some (.int .i64 x1) := (hb2.cell (p := ⟨wr.heap.size, 1, none⟩) (by simp)).trans (cell_of_row _ _ 1 _ _ _ (World.alloc_heap_new wr _)); have n0 : w2.cell? ⟨g, ki * 2, none⟩ = some (.int .i64 y0) := (hbW.out.cell (p := ⟨g, ki * 2, none⟩) hgr.out).trans o0; have n1 : w2.cell? ⟨g, ki * 2 + 1, none⟩ = some (.int .i64 y1) := (hbW.out.cell (p := ⟨g, ki * 2 + 1, none⟩) hgr.out).trans o1; have m0 : w2.frozen? ⟨g, ki * 2, none⟩ = false := (hbW.out.frozen (p := ⟨g, ki * 2, none⟩) hgr.out).trans f0; have m1 : w2.frozen? ⟨g, ki * 2 + 1, none⟩ = false := (hbW.out.frozen (p := ⟨g, ki * 2 + 1, none⟩) hgr.out).trans f1; clear hb2)
          go_roundw
          case rel => exact ⟨ki + 1, kj + 1, _, by go_num, by go_num, by omega, by omega, hkk.out, hput.out w2 hbW.out, ((hB.out.trans (hbW.out.mono (Nat.le_of_lt hgr.out))).setCell (p := ⟨g, ki * 2, none⟩) (Nat.le_refl _) _).setCell (p := ⟨g, ki * 2 + 1, none⟩) (Nat.le_refl _) _⟩
          case measure => simp [intOf]; omega
        | false =>
          have hu2 : (!unlike (x0, x1)) = true := by rw [hu]; rfl
          have kd1 := kd.out
          rw [hu2] at kd1
          replace kd1 := Lib.hid kd1
          clear kd
          have hkk := Lib.hid (hskip.out (by rw [hkp.out, hu]))
          replace hu := Lib.hid hu
          replace hu2 := Lib.hid hu2
          go_wp2_with (go_at_call 40; refine (kd1.out _).mono ?_; rintro e w2 ⟨rfl, hb2⟩; have hbW : Hid (Below wr.heap.size wr w2) := (later_alloc wr (.cells #[.int .i64 x0, .int .i64 x1] 53)).trans (hb2.mono (by simp)); have b0 : w2.cell? ⟨wr.heap.size, 0, none⟩ = some (.int .i64 x0) := (hb2.cell (p := ⟨wr.heap.size, 0, none⟩) (by simp)).trans (cell_of_row _ _ 0 _ _ _ (World.alloc_heap_new wr _)); have b1 : w2.cell? ⟨wr.heap.size, 1, none⟩ = some (.int .i64 x1) := (hb2.cell (p := ⟨wr.heap.size, 1, none⟩) (by simp)).trans (cell_of_row _ _ 1 _ _ _ (World.alloc_heap_new wr _)); have n0 : w2.cell? ⟨g, ki * 2, none⟩ = some (.int .i64 y0) := (hbW.out.cell (p := ⟨g, ki * 2, none⟩) hgr.out).trans o0; have n1 : w2.cell? ⟨g, ki * 2 + 1, none⟩ = some (.int .i64 y1) := (hbW.out.cell (p := ⟨g, ki * 2 + 1, none⟩) hgr.out).trans o1; have m0 : w2.frozen? ⟨g, ki * 2, none⟩ = false := (hbW.out.frozen (p := ⟨g, ki * 2, none⟩) hgr.out).trans f0; have m1 : w2.frozen? ⟨g, ki * 2 + 1, none⟩ = false := (hbW.out.frozen (p := ⟨g, ki * 2 + 1, none⟩) hgr.out).trans f1; clear hb2)
          go_roundw
          case rel => exact ⟨ki, kj + 1, dk, rfl, by go_num, by omega, by omega, hkk.out, hP.out.block (hbW.out.block g hgr.out), hB.out.trans (hbW.out.mono (Nat.le_of_lt hgr.out))⟩
          case measure => simp [intOf]; omega
      · obtain rfl : kj = n := by omega
        have hnl : ¬ (kj : Int) < (kj : Int) := by omega
        have hcl : ∀ ty, (Builtin.clear_ #[22] ty #[.slice (some ⟨g, ki * 2, none⟩) (kj - ki) (cap - ki)]).run Tryz.prog wr = .ok (.tuple #[]) (wr.setCells g (ki * 2) (List.replicate ((kj - ki) * 2) (.int .i64 0))) := fun ty =>
          run_clearP wr ty g (ki * 2) (kj - ki) (cap - ki) (by omega) (fun j hj => by
            obtain ⟨c0, c1⟩ := hP.out.cell (j := (ki * 2 + j) / 2) (by omega)
            rcases (show (ki * 2 + j) % 2 = 0 ∨ (ki * 2 + j) % 2 = 1 by omega) with h | h
            · rw [show ki * 2 + j = (ki * 2 + j) / 2 * 2 by omega, c0]; rfl
            · rw [show ki * 2 + j = (ki * 2 + j) / 2 * 2 + 1 by omega, c1]; rfl) (fun j _ => hP.out.frozen _)
        have hfin : Hid (∃ d' : Array Pr, d'.size = ki ∧ d'.toList = d.toList.filter unlike ∧ PArr (wr.setCells g (ki * 2) (List.replicate ((kj - ki) * 2) (.int .i64 0))) g d' ∧ Below g wr (wr.setCells g (ki * 2) (List.replicate ((kj - ki) * 2) (.int .i64 0)))) := by
          have hl := hK.out.len
          have hlow := hK.out.low
          rw [← hn.out] at hl hlow
          have hsz9 : (keptUpTo kp d d.size).toArray.size = ki := by simpa using hl
          obtain ⟨q1, q2⟩ := hP.out.cleared (d' := (keptUpTo kp d d.size).toArray) (s := ki * 2) (by rw [hsz9]; exact Nat.le_refl _) (by rw [hsz9]; omega) (fun j hj => by
            rw [hsz9] at hj
            have h1 := hlow j hj
            rw [getElem!_pos _ j (by rw [hsz9]; exact hj)]
            rw [List.getElem?_eq_getElem (by omega)] at h1
            simpa using h1) (List.replicate ((kj - ki) * 2) (.int .i64 0))
          exact ⟨_, hsz9, by rw [hfil.out], q1, q2⟩
        have hkc : ki < cap := by omega
        have hkci : (ki : Int) ≤ (kj : Int) := by omega
        replace hK := Lib.hid hK
        clear hds
        go_wp2_with fail
        go_ret
        obtain ⟨d', e1, e2, e3, e4⟩ := hfin.out
        exact ⟨d', by rw [e1]; rfl, e2, e3, hB.out.trans e4⟩
end Go.Proofs.YtkagmkejndjepaaGreatDoor
