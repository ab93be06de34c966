/-
  The walk of the statements' turning of tokens into the reference's. Condition: the tokens can be read.
-/
import Derived.Test.YtkmafbcgdhhenabDoorLxR8
import Derived.BigRegion
import Derived.Deep.RegionLaw
namespace Go.Proofs.YtkmafbcgdhhenabDoor
open Go.RowKit Go.Lx

theorem toks_snoc (ts : List Tok) (k : Nat) (hk : k < ts.length) : ts.take (k + 1) = ts.take k ++ [ts.getD k ⟨0, [], 0⟩] := by
  rw [List.take_succ_eq_append_getElem hk, List.getD_eq_getElem?_getD, List.getElem?_eq_getElem hk]; rfl

/-- an append to what was gathered, at a step of a region that draws its order -/
theorem step_append_held {P : Program} {ops : Array Oper} {o : Oper} {a : Act} {w : World} {K : Act → World → Prop} {Q : Exit → Act → World → Prop} {E : Prop}
    (hg : o.guard = none) (s x : Operand) (t : TypeId) (hop : o.op = Op.call { callee := Callee.builtin Builtin.append, args := #[s, x], argTypes := #[t, t] })
    (base : Nat) (e : TypeId) (i : TypeInfo) (z : Value) (size bytes : Nat) (h1 : P.underlying t = some (.slice e)) (h2 : P.info? e = some i) (h3 : i.zero = some z) (h4 : i.size = size) (h5 : i.bytes = bytes) (h6 : z.cells.size = size) (h7 : 0 < size)
    (v : Value) (n : Nat) (xs : List Value) (hs : a.eval s = v) (hown : w.ownsRow base e size v n xs)
    (ad : Addr) (m c : Nat) (news : List Value) (hx : a.eval x = .slice (some ad) m c) (hn : news.length = m * size) (hc : ∀ j u, news[j]? = some u → w.cell? (ad.add j) = some u) (h1c : ∀ u ∈ news, u.oneCell' = true)
    (b1 : n + m ≤ maxLen) (b2 : (n + m) * bytes ≤ 140737488355328) (hbase : base ≤ w.heap.size)
    (hK : ∀ v' w', w'.ownsRow base e size v' (n + m) (xs ++ news) → w.grownBy w' v.ownBlock → K (a.put o.dst v') w') :
    if Region.wanted o (yielded ops a.tmps) = true then Oper.wp P o a w K Q else E := by
  have hw : Region.wanted o (yielded ops a.tmps) = true := by simp [Region.wanted, hg]
  rw [if_pos hw]
  obtain ⟨v', w', hrun, r1, r2, _⟩ := run_append_own (P := P) w base t o.type e i z size bytes h1 h2 h3 h4 h5 h6 h7 v n xs hown ad m c news hn hc h1c b1 b2 hbase
  unfold Oper.wp
  simp [execOp, hop, resolve, invoke, builtin, hs, hx, hrun, Result.andThen]
  exact hK v' w' r1 r2

set_option maxRecDepth 100000 in
set_option maxHeartbeats 4000000 in
theorem reftoks_any (A : Option Addr) (ts : List Tok) (c : Nat) (w : World) (hU : Toks w w.heap.size A ts) (hl : ts.length ≤ 1099511627776) :
    Calls Tryd.prog 15 #[.slice A ts.length c] w fun e w' => Below w.heap.size w w' ∧ ∃ A' c', e = .returned (.slice A' ts.length c') ∧ Toks w' w'.heap.size A' ts := by
  obtain ⟨i0, hi, hi2⟩ := Option.map_eq_some_iff.1 info_ref
  obtain ⟨hz0, hz1, hz2⟩ : i0.zero = some (.agg #[.int .i64 0, .string ⟨#[]⟩, .int .i64 0]) ∧ i0.size = 3 ∧ i0.bytes = 32 := by
    injection hi2 with h1 h2; injection h2 with h2 h3; exact ⟨h1, h2, h3⟩
  replace hi := Lib.hid hi
  replace hz0 := Lib.hid hz0
  replace hz1 := Lib.hid hz1
  replace hz2 := Lib.hid hz2
  clear hi2
  go_enter Tryd.func15, Tryd.ntmps15
  go_wp2_with fail
  go_loopw [3, 4] (fun v i wr => ∃ (k : Nat) (v' : Value), k ≤ ts.length ∧ i = .int .i64 k ∧ v = v' ∧ Hid (wr.ownsRow w.heap.size 51 3 v' (ts.take k).length (cellsOf (ts.take k))) ∧ Hid (Below w.heap.size w wr)) (fun _ i _ => ts.length - (intOf i).toNat)
  case atStart => exact ⟨0, _, Nat.zero_le _, rfl, rfl, World.ownsRow_nil _ _ _ _, Below.refl _ _⟩
  case round =>
    obtain ⟨k, v', hk, rfl, rfl, hown, hB⟩ := hrel
    by_cases hlt : k < ts.length
    · obtain ⟨b, off, rfl, hb, hc⟩ := (hU.later hB.out) (by intro e; subst e; simp at hlt)
      obtain ⟨c0, c1, c2⟩ := hc k hlt
      clear hc
      have hlen : (ts.take k).length = k := by rw [List.length_take]; omega
      have htk := toks_snoc ts k hlt
      generalize ts.getD k ⟨0, [], 0⟩ = q at c0 c1 c2 htk
      obtain ⟨qk, qt, qn⟩ := q
      dsimp only at c0 c1 c2
      generalize hqs : strOf qt = qs at c1
      have hbd : Below wr.heap.size wr (wr.drew.alloc (.cells #[.int .i64 qk, .string qs, .int .i64 qn] 51)) := (Below.refl _ _).drew.alloc (Nat.le_refl _) _
      have hown1 := Lib.hid (own_later hown.out hbd)
      have hb9 : Hid (Below w.heap.size w (wr.drew.alloc (.cells #[.int .i64 qk, .string qs, .int .i64 qn] 51))) := hB.out.trans (hbd.mono hB.out.size)
      have hbx := Lib.hid (BoxT.new wr.drew 51 (.int .i64 qk) (.string qs) (.int .i64 qn))
      clear hbd hown
      go_wp2_with fail
      go_region_law (
        refine step_append_held rfl (.tmp 11) (.tmp 28) 27 rfl w.heap.size 51 i0 (.agg #[.int .i64 0, .string ⟨#[]⟩, .int .i64 0]) 3 32 Tryd.underlying27 hi.out hz0.out hz1.out hz2.out rfl (by decide) _ _ _ (by simp [Act.eval]) hown1.out ⟨wr.heap.size, 0, none⟩ 1 1 [.int .i64 qk, .string qs, .int .i64 qn] (by simp [Act.eval]) rfl (by
            intro j u hj
            match j, hj with
            | 0, hj => cases hj; exact hbx.out.c0
            | 1, hj => cases hj; exact hbx.out.c1
            | 2, hj => cases hj; exact hbx.out.c2
            | j + 3, hj => simp at hj) (by
            intro u hu
            simp at hu
            rcases hu with rfl | rfl | rfl <;> rfl) (by unfold maxLen; omega) (by omega) hb9.out.size ?_
        intro v'' w1 hown' hgrow
        have hown2 : Hid (w1.ownsRow w.heap.size 51 3 v'' (ts.take (k + 1)).length (cellsOf (ts.take (k + 1)))) := by
          show w1.ownsRow _ _ _ _ _ _
          rw [htk, cellsOf_snoc, List.length_append, hqs]
          exact hown'
        have hb3 : Hid (Below w.heap.size w w1) := hb9.out.grown hgrow hb9.out.size (own_block hown1.out)
        clear hown' hgrow)
      all_goals go_wp2_with fail
      all_goals go_roundw
      all_goals first
        | exact ⟨k + 1, _, by omega, by go_num, rfl, hown2, hb3⟩
        | (simp [intOf]; omega)
    · obtain rfl : k = ts.length := by omega
      rw [List.take_length] at hown
      obtain ⟨A', c', rfl, hT, -, -, -⟩ := toks_ofR hown.out
      replace hT := Lib.hid hT
      clear hown
      go_wp2_with fail
      go_ret
      exact ⟨hB.out, _, _, rfl, hT.out⟩
end Go.Proofs.YtkmafbcgdhhenabDoor
