/-
  AtomNorm. Condition: the pairs can be read, at most 2^20; the library's table lies as laid.
-/
import Derived.Test.YtkagmkejndjepaaGreatDoorAtEx
import Derived.Test.YtkagmkejndjepaaGreatDoorAtSame
import Derived.Test.YtkagmkejndjepaaGreatDoorAtLaws
namespace Go.At
/-- each pair twice, the last one first -/
def twL (l : List Pr) : List Pr := l.foldl (fun t x => x :: x :: t) []
theorem twL_snoc (l : List Pr) (x : Pr) : twL (l ++ [x]) = x :: x :: twL l := by simp [twL]
theorem twL_len : ∀ l : List Pr, (twL l).length = 2 * l.length := by
  have key : ∀ (l t : List Pr), (l.foldl (fun t x => x :: x :: t) t).length = 2 * l.length + t.length := by
    intro l
    induction l with
    | nil => intro t; simp
    | cons x r ih => intro t; rw [List.foldl_cons, ih]; simp; omega
  intro l
  have := key l []
  simpa [twL] using this
theorem twL_mem (l : List Pr) (z : Pr) : z ∈ twL l ↔ z ∈ l := by
  have key : ∀ (l t : List Pr), z ∈ l.foldl (fun t x => x :: x :: t) t ↔ z ∈ l ∨ z ∈ t := by
    intro l
    induction l with
    | nil => intro t; simp
    | cons x r ih =>
      intro t
      rw [List.foldl_cons, ih]
      simp only [List.mem_cons]
      constructor
      · rintro (h | h | h | h) <;> simp [h]
      · rintro ((h | h) | h) <;> simp [h]
  have := key l []
  simpa [twL] using this
theorem norm_norm (l : List Pr) : normL (normL l) = normL l := by
  have hm : ∀ z, z ∈ normL l → unlike z = true := fun z hz => (List.mem_filter.1 ((ord_mem linP _ z).1 hz)).2
  have e : (normL l).filter unlike = normL l := List.filter_eq_self.2 hm
  unfold normL at e ⊢
  rw [e]
  exact ord_self linP (ord_asc linP _)
theorem norm_tw (l : List Pr) : normL (twL l) = normL l := by
  unfold normL
  exact ord_one linP fun z => by rw [List.mem_filter, List.mem_filter, twL_mem]
/-- are both one? -/
def sameQ (z p : Pr) : Bool := (z.1 == p.1) && (z.2 == p.2)
/-- is the pair there? -/
def metQ (l : List Pr) (p : Pr) : Bool := l.any fun z => sameQ z p
theorem metQ_snoc (l : List Pr) (k : Nat) (hk : k < l.length) (p : Pr) : metQ (l.take (k + 1)) p = (metQ (l.take k) p || (((l.getD k (0, 0)).1 == p.1) && ((l.getD k (0, 0)).2 == p.2))) := by
  unfold metQ
  rw [take_snoc l (0, 0) k hk, List.any_append]
  simp [sameQ]
theorem metQ_all {l : List Pr} {p : Pr} (hp : p ∈ l) : ((p.1 == p.2) || metQ (normL l) p) = true := by
  by_cases h : p.1 = p.2
  · simp [h]
  · have hu : unlike p = true := by unfold unlike; simp [h]
    have hm : p ∈ normL l := (ord_mem linP _ p).2 (List.mem_filter.2 ⟨hp, hu⟩)
    have : metQ (normL l) p = true := by
      unfold metQ
      rw [List.any_eq_true]
      exact ⟨p, hm, by simp [sameQ]⟩
    rw [this, Bool.or_true]
/-- in order, of unlike ones -/
def RiseP (v : List Pr) : Prop := ∀ k, k < v.length → (v.getD k (0, 0)).1 ≠ (v.getD k (0, 0)).2 ∧ (k + 1 < v.length → (v.getD k (0, 0)).1 < (v.getD (k + 1) (0, 0)).1 ∨ (v.getD k (0, 0)).1 = (v.getD (k + 1) (0, 0)).1 ∧ (v.getD k (0, 0)).2 < (v.getD (k + 1) (0, 0)).2)
theorem norm_rise (l : List Pr) : RiseP (normL l) := fun k hk => by
  have hm : ∀ z, z ∈ normL l → unlike z = true := fun z hz => (List.mem_filter.1 ((ord_mem linP _ z).1 hz)).2
  have h := ord_asc linP (l.filter unlike)
  constructor
  · have h1 := hm ((normL l).getD k (0, 0)) (by rw [List.getD_eq_getElem?_getD, List.getElem?_eq_getElem hk]; exact List.getElem_mem _)
    intro e
    unfold unlike at h1
    rw [e] at h1
    simp at h1
  · intro hk1
    have h2 := List.pairwise_iff_getElem.1 h k (k + 1) hk hk1 (by omega)
    rw [List.getD_eq_getElem?_getD, List.getD_eq_getElem?_getD, List.getElem?_eq_getElem hk, List.getElem?_eq_getElem hk1]
    have h3 : ltP (normL l)[k] (normL l)[k + 1] = true := h2
    simpa [ltP] using h3
end Go.At
namespace Go.Proofs.YtkagmkejndjepaaGreatDoor
open Go.RowKit Go.Shelf Go.At
attribute [local go_sem] Oper.semAt_some

/-- an append to what is owned, at a step of a region that draws its order -/
theorem step_append_held {P : Program} {ops : Array Oper} {o : Oper} {a : Act} {w : World} {K : Act → World → Prop} {Q : Exit → Act → World → Prop} {E : Prop}
    (hg : o.guard = none) (s x : Operand) (t : TypeId) (hop : o.op = Op.call { callee := Callee.builtin Builtin.append, args := #[s, x], argTypes := #[t, t] })
    (base : Nat) (e : TypeId) (i : TypeInfo) (z : Value) (size bytes : Nat) (h1 : P.underlying t = some (.slice e)) (h2 : P.info? e = some i) (h3 : i.zero = some z) (h4 : i.size = size) (h5 : i.bytes = bytes) (h6 : z.cells.size = size) (h7 : 0 < size)
    (v : Value) (n : Nat) (xs : List Value) (hs : a.eval s = v) (hown : w.ownsRow base e size v n xs)
    (ad : Addr) (m c : Nat) (news : List Value) (hx : a.eval x = .slice (some ad) m c) (hn : news.length = m * size) (hc : ∀ j u, news[j]? = some u → w.cell? (ad.add j) = some u) (h1c : ∀ u ∈ news, u.oneCell' = true)
    (b1 : n + m ≤ maxLen) (b2 : (n + m) * bytes ≤ 140737488355328) (hbase : base ≤ w.heap.size)
    (hK : ∀ v' w', w'.ownsRow base e size v' (n + m) (xs ++ news) → w.grownBy w' v.ownBlock → K (a.put o.dst v') w') :
    if Region.wanted o (yielded ops a.tmps) = true then Oper.wp P o a w K Q else E := by
  have hw : Region.wanted o (yielded ops a.tmps) = true := by simp [Region.wanted, hg]
  rw [if_pos hw]
  obtain ⟨v', w', hrun, r1, r2, _⟩ := run_append_own (P := P) w base t o.type e i z size bytes h1 h2 h3 h4 h5 h6 h7 v n xs hown ad m c news hn hc h1c b1 b2 hbase
  unfold Oper.wp
  simp [execOp, hop, resolve, invoke, builtin, hs, hx, hrun, Result.andThen]
  exact hK v' w' r1 r2
/-- two of one, and what was there behind them -/
theorem own_two (w : World) (x y : Int) : (w.alloc (.cells #[.int .i64 x, .int .i64 y, .int .i64 x, .int .i64 y] 53)).ownsRow w.heap.size 53 2 (.slice (some ⟨w.heap.size, 0, none⟩) 2 2) 2 (cellsP [(x, y), (x, y)]) :=
  ⟨rfl, .inr ⟨w.heap.size, 2, _, rfl, Nat.le_refl _, World.alloc_heap_new w _, Nat.le_refl _, by decide, rfl, rfl⟩⟩
/-- .. of nothing -/
theorem step_append_none {P : Program} {ops : Array Oper} {o : Oper} {a : Act} {w : World} {K : Act → World → Prop} {Q : Exit → Act → World → Prop} {E : Prop}
    (hg : o.guard = none) (s x : Operand) (t : TypeId) (hop : o.op = Op.call { callee := Callee.builtin Builtin.append, args := #[s, x], argTypes := #[t, t] })
    (base : Nat) (e : TypeId) (i : TypeInfo) (size : Nat) (h1 : P.underlying t = some (.slice e)) (h2 : P.info? e = some i)
    (g k cap : Nat) (xs : List Value) (hs : a.eval s = .slice (some ⟨g, 0, none⟩) k cap) (hown : w.ownsRow base e size (.slice (some ⟨g, 0, none⟩) k cap) k xs) (hx : a.eval x = .slice none 0 0)
    (hK : K (a.put o.dst (.slice (some ⟨g, 0, none⟩) k cap)) w) :
    if Region.wanted o (yielded ops a.tmps) = true then Oper.wp P o a w K Q else E := by
  have hw : Region.wanted o (yielded ops a.tmps) = true := by simp [Region.wanted, hg]
  rw [if_pos hw]
  have hrun := run_append_owned_none (P := P) w base t o.type e i size h1 h2 _ k xs hown
  unfold Oper.wp
  simp [execOp, hop, resolve, invoke, builtin, hs, hx, hrun, Result.andThen]
  exact hK
set_option maxRecDepth 100000 in
set_option maxHeartbeats 4000000 in
theorem atomNorm_any (A : Option Addr) (l : List Pr) (c : Nat) (w : World) (hE : Env w) (hP : Prs w A l) (h6 : ∀ p ∈ l, I64 p.1 ∧ I64 p.2) (_ok : OkS A l.length c) (hl : l.length ≤ 1048576) :
    Calls Tryz.prog 5 #[.slice A l.length c] w fun e w' => e = .returned (.bool true) ∧ Below w.heap.size w w' := by
  obtain ⟨i0, hi, hi2⟩ := Option.map_eq_some_iff.1 infoPr
  obtain ⟨hz0, hz1, hz2⟩ : i0.zero = some (.agg #[.int .i64 0, .int .i64 0]) ∧ i0.size = 2 ∧ i0.bytes = 16 := by
    injection hi2 with h1 h2; injection h2 with h2 h3; exact ⟨h1, h2, h3⟩
  replace hi := Lib.hid hi
  replace hz0 := Lib.hid hz0
  replace hz1 := Lib.hid hz1
  replace hz2 := Lib.hid hz2
  clear hi2
  have kx := Lib.hid (examples_any w hE)
  have hll := Lib.hid hl
  obtain ⟨nn, hnn⟩ : ∃ nn, normL l = nn := ⟨_, rfl⟩
  have hNL := norm_len l
  have hrise := norm_rise l
  have hidem := norm_norm l
  have htw := norm_tw l
  have hmet : ∀ p ∈ l, ((p.1 == p.2) || metQ (normL l) p) = true := fun p hp => metQ_all hp
  rw [hnn] at hNL hrise hidem htw hmet
  replace hrise := Lib.hid hrise
  replace hidem := Lib.hid hidem
  replace htw := Lib.hid htw
  replace hmet := Lib.hid hmet
  obtain ⟨L, hL⟩ : ∃ L, Hid (l.length = L) := ⟨_, rfl⟩
  have hLl := hL.out
  rw [hLl] at hl hNL ⊢
  clear hLl
  replace h6 := Lib.hid h6
  go_enter Tryz.func5, Tryz.ntmps5
  go_wp2_with fail
  refine kx.out.mono ?_
  rintro e w1 ⟨rfl, hb1⟩
  have kn := norm_any A l c w1 (hP.later hb1) (by have := hll.out; omega)
  rw [hL.out, hnn] at kn
  have hP1 := Lib.hid (hP.later hb1)
  replace hb1 := Lib.hid hb1
  replace hnn := Lib.hid hnn
  obtain ⟨N, hN⟩ : ∃ N, Hid (nn.length = N) := ⟨_, rfl⟩
  have hNn := hN.out
  rw [hNn] at hNL kn
  clear hNn hP kx
  replace kn := Lib.hid kn
  go_wp2_with fail
  refine kn.out.mono ?_
  rintro e w2 ⟨⟨An, cn, rfl, hPn⟩, hb2⟩
  have hP2 := Lib.hid (hP1.out.later hb2)
  have hB2 := Lib.hid (hb1.out.trans (hb2.mono hb1.out.size))
  replace hPn := Lib.hid hPn
  clear kn hb1 hb2 hP1
  go_wp2_with fail
  go_loopw [5, 6] (fun t i W => ∃ (k : Nat) (At : Option Addr) (ct : Nat), k ≤ L ∧ t = .slice At (2 * k) ct ∧ i = .int .i64 k ∧ Hid (Prs W At (twL (l.take k))) ∧ Hid (k = 0 → At = none ∧ ct = 0) ∧ Hid (Below w2.heap.size w2 W)) (fun _ i _ => L - (intOf i).toNat)
  case atStart => exact ⟨0, none, 0, Nat.zero_le _, rfl, rfl, Prs.nil _ _, fun _ => ⟨rfl, rfl⟩, Below.refl _ _⟩
  case round =>
    obtain ⟨k, At, ct, hk, rfl, rfl, hT, hk0, hB⟩ := hrel
    by_cases hlt : k < L
    · have hkl : k < l.length := by rw [hL.out]; exact hlt
      obtain ⟨b, off, rfl, hb, hc⟩ := (hP2.out.later hB.out) (by intro e; subst e; simp at hkl)
      obtain ⟨c0, c1⟩ := hc k hkl
      clear hc
      have htk := take_snoc l (0, 0) k hkl
      have htl : (twL (l.take k)).length = 2 * k := by rw [twL_len, List.length_take]; omega
      have hma := hmet.out (l.getD k (0, 0)) (by rw [List.getD_eq_getElem?_getD, List.getElem?_eq_getElem hkl]; exact List.getElem_mem _)
      have htn : Hid (twL (l.take (k + 1)) = [l.getD k (0, 0), l.getD k (0, 0)] ++ twL (l.take k)) := by show _ = _; rw [htk, twL_snoc]; rfl
      clear htk
      generalize l.getD k (0, 0) = q at c0 c1 hma htn
      obtain ⟨x, y⟩ := q
      dsimp only at c0 c1 hma
      replace hma := Lib.hid hma
      obtain ⟨tl, htlE⟩ : ∃ tl, twL (l.take k) = tl := ⟨_, rfl⟩
      rw [htlE] at hT htn htl
      replace htlE := Lib.hid htlE
      cases At with
      | none =>
        have htl0 : tl = [] := by
          cases tl with
          | nil => rfl
          | cons a r => obtain ⟨_, _, e, _⟩ := hT.out (by simp); cases e
        have hkz : k = 0 := by rw [htl0] at htl; simp at htl; omega
        subst hkz
        obtain ⟨-, rfl⟩ := hk0.out rfl
        have hown1 := Lib.hid (own_two wr.drew x y)
        have hbx := Lib.hid ((Below.refl wr.heap.size wr).drew.alloc (Nat.le_refl _) (.cells #[.int .i64 x, .int .i64 y, .int .i64 x, .int .i64 y] 53))
        have hown2 : Hid ((wr.drew.alloc (.cells #[.int .i64 x, .int .i64 y, .int .i64 x, .int .i64 y] 53)).ownsRow wr.heap.size 53 2 (.slice (some ⟨wr.heap.size, 0, none⟩) 2 2) (twL (l.take (0 + 1))).length (cellsP (twL (l.take (0 + 1))))) := by
          show World.ownsRow _ _ _ _ _ _ _
          rw [htn.out, htl0, List.append_nil]
          exact hown1.out
        replace htl0 := Lib.hid htl0
        rw [Nat.mul_zero]
        rw [Nat.zero_mul, Nat.add_zero] at c0 c1
        go_wp2_with fail
        go_region_law (
          refine step_append_none rfl (.tmp 29) (.tmp 30) 22 rfl wr.heap.size 53 i0 2 Tryz.underlying22 hi.out wr.heap.size 2 2 (cellsP [(x, y), (x, y)]) (by simp [Act.eval]) hown1.out (by simp [Act.eval]) ?_)
        all_goals
          have hb3 : Hid (Below wr.heap.size wr (wr.drew.alloc (.cells #[.int .i64 x, .int .i64 y, .int .i64 x, .int .i64 y] 53))) := hbx.out
          obtain ⟨w3, hw3⟩ : ∃ w3, wr.drew.alloc (.cells #[.int .i64 x, .int .i64 y, .int .i64 x, .int .i64 y] 53) = w3 := ⟨_, rfl⟩
          first | (rw [hw3] at hown2 hb3 ⊢) | (change Exit.then _ _ Exit.normal _ (wr.drew.alloc (.cells #[.int .i64 x, .int .i64 y, .int .i64 x, .int .i64 y] 53)); rw [hw3] at hown2 hb3 ⊢)
          clear hw3
        all_goals
          obtain ⟨A5, c5, e5, hT5, -⟩ := prs_own hown2.out
          have htl5 : (twL (l.take (0 + 1))).length = 2 * (0 + 1) := by rw [twL_len, List.length_take]; omega
          rw [htl5] at e5
          rw [show Value.slice (some ⟨wr.heap.size, 0, none⟩) 2 2 = .slice A5 2 c5 from e5]; replace e5 := Lib.hid e5
          replace htl5 := Lib.hid htl5
          have d0 := (hb3.out.cell (p := ⟨b, off, none⟩) hb).trans c0
          have d1 := (hb3.out.cell (p := ⟨b, off + 1, none⟩) hb).trans c1
          have hB5 := Lib.hid (hB.out.trans (hb3.out.mono hB.out.size))
          replace hT5 := Lib.hid hT5
          clear hown2 hb3 c0 c1 hown1 hbx
          go_wp2_with fail
          go_quiet (fail)
          all_goals
            have hBq := Lib.hid (belowN hB5.out nq)
            have hTq : Hid (Prs (w3.drewN nq) A5 (twL (l.take (0 + 1)))) := hT5.out.later (belowN (Below.refl _ _) nq)
            have q0 : (w3.drewN nq).cell? ⟨b, off, none⟩ = some (.int .i64 x) := d0
            have q1 : (w3.drewN nq).cell? ⟨b, off + 1, none⟩ = some (.int .i64 y) := d1
            have hbq : Hid (b < (w3.drewN nq).heap.size) := World.block_lt_of_cell? _ _ q0
            obtain ⟨W6, hW6⟩ : ∃ W6, w3.drewN nq = W6 := ⟨_, rfl⟩
            rw [hW6] at hBq hTq q0 q1 hbq ⊢
            clear hW6 d0 d1 hB5 hT5
            go_wp2_with fail
            go_loopw [7, 8] (fun f i W => ∃ m : Nat, m ≤ N ∧ f = .bool ((x == y) || metQ (nn.take m) (x, y)) ∧ i = .int .i64 m ∧ Hid (Below W6.heap.size W6 W)) (fun _ i _ => N - (intOf i).toNat)
            case atStart => exact ⟨0, Nat.zero_le _, by simp [metQ], rfl, Below.refl _ _⟩
            case round =>
              obtain ⟨m, hm, rfl, rfl, hB7⟩ := hrel
              by_cases hm2 : m < N
              · have hmn : m < nn.length := by rw [hN.out]; exact hm2
                obtain ⟨bn, on, rfl, -, hrow⟩ := (hPn.out.later (hBq.out.trans (hB7.out.mono hBq.out.size))) (by intro e; subst e; simp at hmn)
                obtain ⟨n0, n1⟩ := hrow m hmn
                have hsn := metQ_snoc nn m hmn (x, y)
                clear hrow
                generalize nn.getD m (0, 0) = z at n0 n1 hsn
                obtain ⟨z0, z1⟩ := z
                dsimp only at n0 n1 hsn
                have r0 := (hB7.out.cell (p := ⟨b, off, none⟩) hbq.out).trans q0
                have r1 := (hB7.out.cell (p := ⟨b, off + 1, none⟩) hbq.out).trans q1
                have heq : ∀ w, Sem.run Tryz.prog (binOp .eql 53 (.agg #[.int .i64 z0, .int .i64 z1]) (.agg #[.int .i64 x, .int .i64 y])) w = .ok (.bool (sameP z0 z1 x y)) w := eqPair z0 z1 x y
                have hgd : ∀ (op : BinOp) (a b : Operand) w, Sem.run Tryz.prog (eqGuard op 53 a b (.agg #[.int .i64 z0, .int .i64 z1]) (.agg #[.int .i64 x, .int .i64 y])) w = .ok () w := fun op a b w => guardPair op a b _ _ w
                have hor : Hid (((x == y) || metQ (nn.take (m + 1)) (x, y)) = (((x == y) || metQ (nn.take m) (x, y)) || sameP z0 z1 x y)) := by show _ = _; rw [hsn, Bool.or_assoc]; rfl
                clear hsn
                generalize sameP z0 z1 x y = sp at heq hor
                cases hf : ((x == y) || metQ (nn.take m) (x, y)) with
                | true =>
                  have hor2 : Hid (((x == y) || metQ (nn.take (m + 1)) (x, y)) = true) := by show _ = _; rw [hor.out, hf]; rfl
                  replace hf := Lib.hid hf
                  go_wp2_with fail
                  go_quiet (fail)
                  all_goals
                    go_wp2_with fail
                    go_roundw
                    case rel => exact ⟨m + 1, by omega, by rw [hor2.out], by go_num, belowN hB7.out _⟩
                    case measure => simp [intOf]; omega
                | false =>
                  have hor2 : Hid (((x == y) || metQ (nn.take (m + 1)) (x, y)) = sp) := by show _ = _; rw [hor.out, hf, Bool.false_or]
                  replace hf := Lib.hid hf
                  go_wp2_with fail
                  go_quiet (fail)
                  all_goals
                    go_wp2_with fail
                    go_roundw
                    case rel => exact ⟨m + 1, by omega, by rw [hor2.out], by go_num, belowN hB7.out _⟩
                    case measure => simp [intOf]; omega
              · obtain rfl : m = N := by omega
                have hta : nn.take m = nn := List.take_of_length_le (by rw [hN.out]; exact Nat.le_refl _)
                rw [hta, hma.out]
                replace hta := Lib.hid hta
                go_wp2_with fail
                go_roundw
                case rel => exact ⟨0 + 1, A5, c5, by omega, by first | rfl | trivial, by go_num, hTq.out.later hB7.out, fun h => absurd h (by omega), hBq.out.trans (hB7.out.mono hBq.out.size)⟩
                case measure => simp [intOf]; omega
      | some ad =>
        have hcells : Hid (∀ W, Below wr.heap.size wr W → ∀ j u, (cellsP tl)[j]? = some u → W.cell? (ad.add j) = some u) := fun W hW j u hj => by
          have hlj : j < tl.length * 2 := by rw [← cellsP_len]; exact (List.getElem?_eq_some_iff.1 hj).1
          obtain ⟨b', off', e, hb', hrow⟩ := (hT.out.later hW) (by intro e; subst e; simp at hlj)
          obtain rfl := Option.some.inj e
          obtain ⟨x0, x1⟩ := hrow (j / 2) (by omega)
          obtain ⟨y0, y1⟩ := cellsP_get tl (j / 2) (by omega)
          rw [Addr.add_lit]
          rcases (show j % 2 = 0 ∨ j % 2 = 1 by omega) with h | h
          · rw [show j / 2 * 2 = j by omega] at x0 y0
            rw [y0] at hj
            rw [x0, hj]
          · rw [show j / 2 * 2 + 1 = j by omega] at y1
            rw [show off' + j / 2 * 2 + 1 = off' + j by omega] at x1
            rw [y1] at hj
            rw [x1, hj]
        have hown1 := Lib.hid (own_two wr.drew x y)
        have hbx := Lib.hid ((Below.refl wr.heap.size wr).drew.alloc (Nat.le_refl _) (.cells #[.int .i64 x, .int .i64 y, .int .i64 x, .int .i64 y] 53))
        go_wp2_with fail
        go_region_law (
          refine step_append_held rfl (.tmp 29) (.tmp 30) 22 rfl wr.heap.size 53 i0 (.agg #[.int .i64 0, .int .i64 0]) 2 16 Tryz.underlying22 hi.out hz0.out hz1.out hz2.out rfl (by decide) _ _ _ (by simp [Act.eval]) hown1.out ad (2 * k) ct (cellsP tl) (by simp [Act.eval]) (by rw [cellsP_len, htl]) (hcells.out _ hbx.out) (cells_one tl) (by unfold maxLen; omega) (by omega) hbx.out.size ?_
          intro v'' w3 hown' hgrow
          have hown2 : Hid (w3.ownsRow wr.heap.size 53 2 v'' (twL (l.take (k + 1))).length (cellsP (twL (l.take (k + 1))))) := by
            show w3.ownsRow _ _ _ _ _ _
            rw [htn.out, cellsP_append, List.length_append, htl]
            exact hown'
          have hb3 : Hid (Below wr.heap.size wr w3) := hbx.out.grown hgrow hbx.out.size (own_block hown1.out)
          clear hown' hgrow)
        all_goals
          obtain ⟨A5, c5, e5, hT5, -⟩ := prs_own hown2.out
          have htl5 : (twL (l.take (k + 1))).length = 2 * (k + 1) := by rw [twL_len, List.length_take]; omega
          rw [htl5] at e5
          subst e5
          replace htl5 := Lib.hid htl5
          have d0 := (hb3.out.cell (p := ⟨b, off + k * 2, none⟩) hb).trans c0
          have d1 := (hb3.out.cell (p := ⟨b, off + k * 2 + 1, none⟩) hb).trans c1
          have hB5 := Lib.hid (hB.out.trans (hb3.out.mono hB.out.size))
          replace hT5 := Lib.hid hT5
          clear hown2 hb3 c0 c1 hown1 hbx
          go_wp2_with fail
          go_quiet (fail)
          all_goals
            have hBq := Lib.hid (belowN hB5.out nq)
            have hTq : Hid (Prs (w3.drewN nq) A5 (twL (l.take (k + 1)))) := hT5.out.later (belowN (Below.refl _ _) nq)
            have q0 : (w3.drewN nq).cell? ⟨b, off + k * 2, none⟩ = some (.int .i64 x) := d0
            have q1 : (w3.drewN nq).cell? ⟨b, off + k * 2 + 1, none⟩ = some (.int .i64 y) := d1
            have hbq : Hid (b < (w3.drewN nq).heap.size) := World.block_lt_of_cell? _ _ q0
            obtain ⟨W6, hW6⟩ : ∃ W6, w3.drewN nq = W6 := ⟨_, rfl⟩
            rw [hW6] at hBq hTq q0 q1 hbq ⊢
            clear hW6 d0 d1 hB5 hT5
            go_wp2_with fail
            go_loopw [7, 8] (fun f i W => ∃ m : Nat, m ≤ N ∧ f = .bool ((x == y) || metQ (nn.take m) (x, y)) ∧ i = .int .i64 m ∧ Hid (Below W6.heap.size W6 W)) (fun _ i _ => N - (intOf i).toNat)
            case atStart => exact ⟨0, Nat.zero_le _, by simp [metQ], rfl, Below.refl _ _⟩
            case round =>
              obtain ⟨m, hm, rfl, rfl, hB7⟩ := hrel
              by_cases hm2 : m < N
              · have hmn : m < nn.length := by rw [hN.out]; exact hm2
                obtain ⟨bn, on, rfl, -, hrow⟩ := (hPn.out.later (hBq.out.trans (hB7.out.mono hBq.out.size))) (by intro e; subst e; simp at hmn)
                obtain ⟨n0, n1⟩ := hrow m hmn
                have hsn := metQ_snoc nn m hmn (x, y)
                clear hrow
                generalize nn.getD m (0, 0) = z at n0 n1 hsn
                obtain ⟨z0, z1⟩ := z
                dsimp only at n0 n1 hsn
                have r0 := (hB7.out.cell (p := ⟨b, off + k * 2, none⟩) hbq.out).trans q0
                have r1 := (hB7.out.cell (p := ⟨b, off + k * 2 + 1, none⟩) hbq.out).trans q1
                have heq : ∀ w, Sem.run Tryz.prog (binOp .eql 53 (.agg #[.int .i64 z0, .int .i64 z1]) (.agg #[.int .i64 x, .int .i64 y])) w = .ok (.bool (sameP z0 z1 x y)) w := eqPair z0 z1 x y
                have hgd : ∀ (op : BinOp) (a b : Operand) w, Sem.run Tryz.prog (eqGuard op 53 a b (.agg #[.int .i64 z0, .int .i64 z1]) (.agg #[.int .i64 x, .int .i64 y])) w = .ok () w := fun op a b w => guardPair op a b _ _ w
                have hor : Hid (((x == y) || metQ (nn.take (m + 1)) (x, y)) = (((x == y) || metQ (nn.take m) (x, y)) || sameP z0 z1 x y)) := by show _ = _; rw [hsn, Bool.or_assoc]; rfl
                clear hsn
                generalize sameP z0 z1 x y = sp at heq hor
                cases hf : ((x == y) || metQ (nn.take m) (x, y)) with
                | true =>
                  have hor2 : Hid (((x == y) || metQ (nn.take (m + 1)) (x, y)) = true) := by show _ = _; rw [hor.out, hf]; rfl
                  replace hf := Lib.hid hf
                  go_wp2_with fail
                  go_quiet (fail)
                  all_goals
                    go_wp2_with fail
                    go_roundw
                    case rel => exact ⟨m + 1, by omega, by rw [hor2.out], by go_num, belowN hB7.out _⟩
                    case measure => simp [intOf]; omega
                | false =>
                  have hor2 : Hid (((x == y) || metQ (nn.take (m + 1)) (x, y)) = sp) := by show _ = _; rw [hor.out, hf, Bool.false_or]
                  replace hf := Lib.hid hf
                  go_wp2_with fail
                  go_quiet (fail)
                  all_goals
                    go_wp2_with fail
                    go_roundw
                    case rel => exact ⟨m + 1, by omega, by rw [hor2.out], by go_num, belowN hB7.out _⟩
                    case measure => simp [intOf]; omega
              · obtain rfl : m = N := by omega
                have hta : nn.take m = nn := List.take_of_length_le (by rw [hN.out]; exact Nat.le_refl _)
                rw [hta, hma.out]
                replace hta := Lib.hid hta
                go_wp2_with fail
                go_roundw
                case rel => exact ⟨k + 1, A5, c5, by omega, by first | rfl | trivial, by go_num, hTq.out.later hB7.out, fun h => absurd h (by omega), hBq.out.trans (hB7.out.mono hBq.out.size)⟩
                case measure => simp [intOf]; omega
    · obtain rfl : k = L := by omega
      have hT2 := hT.out
      rw [List.take_of_length_le (by rw [hL.out]; exact Nat.le_refl _)] at hT2
      have hTL : (twL l).length = 2 * k := by rw [twL_len, hL.out]
      replace hT2 := Lib.hid hT2
      clear hT hk0
      have hNLi : decide ((N : Int) ≤ (k : Int)) = true := decide_eq_true (by omega)
      have hNLj : (N : Int) ≤ (k : Int) := by omega
      rename World => W4
      go_wp2_with fail
      go_loopw [9] (fun i W => ∃ m : Nat, m ≤ N ∧ i = .int .i64 m ∧ Hid (Below W4.heap.size W4 W)) (fun i _ => N - (intOf i).toNat)
      case atStart => exact ⟨0, Nat.zero_le _, rfl, Below.refl _ _⟩
      case round =>
        obtain ⟨m, hm, rfl, hB6⟩ := hrel
        by_cases hm2 : m < N
        · have hmn : m < nn.length := by rw [hN.out]; exact hm2
          obtain ⟨bn, on, rfl, -, hrow⟩ := (hPn.out.later (hB.out.trans (hB6.out.mono hB.out.size))) (by intro e; subst e; simp at hmn)
          cases m with
          | zero =>
            obtain ⟨n0, n1⟩ := hrow 0 hmn
            rw [Nat.zero_mul, Nat.add_zero] at n0 n1
            have h1 := (hrise.out 0 hmn).1
            clear hrow
            generalize nn.getD 0 (0, 0) = z at n0 n1 h1
            obtain ⟨z0, z1⟩ := z
            dsimp only at n0 n1 h1
            have hd : (z0 == z1) = false := beq_eq_false_iff_ne.2 h1
            have hVi : (0 : Int) < (N : Int) := by omega
            go_wp2_with fail
            go_quiet (fail)
            all_goals
              go_wp2_with fail
              go_roundw
              case rel => exact ⟨1, by omega, by first | rfl | go_num | trivial, belowN hB6.out _⟩
              case measure => simp [intOf]; omega
          | succ m =>
            obtain ⟨n0, n1⟩ := hrow (m + 1) hmn
            obtain ⟨o0, o1⟩ := hrow m (by omega)
            have h1 := (hrise.out (m + 1) hmn).1
            have h2 := (hrise.out m (by omega)).2 hmn
            clear hrow
            generalize nn.getD (m + 1) (0, 0) = z at n0 n1 h1 h2
            generalize nn.getD m (0, 0) = y at o0 o1 h2
            obtain ⟨z0, z1⟩ := z
            obtain ⟨y0, y1⟩ := y
            dsimp only at n0 n1 o0 o1 h1 h2
            have hd : (z0 == z1) = false := beq_eq_false_iff_ne.2 h1
            have hd2 : decide (z0 < y0) = false := decide_eq_false (by omega)
            have hd4 : ¬ z0 < y0 := by omega
            have hwk : IntKind.i64.wrap (m : Int) = (m : Int) := wrap_i ⟨by omega, by omega⟩
            have hb1 : (m : Int) < (N : Int) := by omega
            have hb2 : (m : Int) + 1 < (N : Int) := by omega
            have hb3 : (0 : Int) ≤ (m : Int) + 1 := by omega
            have hb4 : (0 : Int) < (m : Int) + 1 := by omega
            have hb5 : decide ((0 : Int) < (m : Int) + 1) = true := decide_eq_true hb4
            have e1 : ((m + 1 : Nat) : Int) = (m : Int) + 1 := by omega
            rw [e1]
            clear e1
            by_cases h3 : y0 = z0
            · have hd3 : (y0 == z0) = true := beq_iff_eq.2 h3
              have hd5 : decide (z1 ≤ y1) = false := decide_eq_false (by omega)
              have hd6 : ¬ z1 ≤ y1 := by omega
              replace h3 := Lib.hid h3
              replace h2 := Lib.hid h2
              replace h1 := Lib.hid h1
              go_wp2_with fail
              go_quiet (fail)
              all_goals
                go_wp2_with fail
                go_roundw
                case rel => exact ⟨m + 1 + 1, by omega, by go_num, belowN hB6.out _⟩
                case measure => simp [intOf]; omega
            · have hd3 : (y0 == z0) = false := beq_eq_false_iff_ne.2 h3
              replace h2 := Lib.hid h2
              replace h1 := Lib.hid h1
              replace h3 := Lib.hid h3
              go_wp2_with fail
              go_quiet (fail)
              all_goals
                go_wp2_with fail
                go_roundw
                case rel => exact ⟨m + 1 + 1, by omega, by go_num, belowN hB6.out _⟩
                case measure => simp [intOf]; omega
        · obtain rfl : m = N := by omega
          have hB0 := Lib.hid (hB2.out.trans ((hB.out.trans (hB6.out.mono hB.out.size)).mono hB2.out.size))
          have hPm := hPn.out.later (hB.out.trans (hB6.out.mono hB.out.size))
          have hT3 := Lib.hid (hT2.out.later hB6.out)
          have hlm : nn.length ≤ 8796093022208 := by rw [hN.out]; omega
          have k1 := norm_any An nn cn wr hPm hlm
          rw [hidem.out, hN.out] at k1
          replace k1 := Lib.hid k1
          replace hPm := Lib.hid hPm
          clear hB hB6 hB2 hPn hT2
          go_wp2_with fail
          refine k1.out.mono ?_
          rintro e w5 ⟨⟨A5, c5, rfl, h5⟩, hb5⟩
          have hB5 := Lib.hid (hB0.out.trans (hb5.mono hB0.out.size))
          have hP5 := Lib.hid (hPm.out.later hb5)
          have hT5 := Lib.hid (hT3.out.later hb5)
          have k2 := same_any A5 An nn nn c5 cn w5 h5 hP5.out hlm
          rw [show decide (nn = nn) = true from decide_eq_true rfl, hN.out] at k2
          replace k2 := Lib.hid k2
          clear k1 h5 hb5 hB0 hPm hT3
          go_wp2_with fail
          refine k2.out.mono ?_
          rintro e w6 ⟨rfl, hb6⟩
          have hB6 := Lib.hid (hB5.out.trans (hb6.mono hB5.out.size))
          have hP6 := Lib.hid (hP5.out.later hb6)
          have k3 := norm_any At (twL l) ct w6 (hT5.out.later hb6) (by rw [hTL]; omega)
          rw [htw.out, hN.out, hTL] at k3
          replace k3 := Lib.hid k3
          replace hTL := Lib.hid hTL
          clear k2 hb6 hB5 hP5 hT5
          go_wp2_with fail
          refine k3.out.mono ?_
          rintro e w7 ⟨⟨A7, c7, rfl, h7⟩, hb7⟩
          have hB7 := Lib.hid (hB6.out.trans (hb7.mono hB6.out.size))
          have k4 := same_any A7 An nn nn c7 cn w7 h7 (hP6.out.later hb7) hlm
          rw [show decide (nn = nn) = true from decide_eq_true rfl, hN.out] at k4
          replace k4 := Lib.hid k4
          clear k3 h7 hb7 hB6 hP6
          go_wp2_with fail
          refine k4.out.mono ?_
          rintro e w8 ⟨rfl, hb8⟩
          have hB8 := Lib.hid (hB7.out.trans (hb8.mono hB7.out.size))
          clear k4 hb8 hB7
          go_wp2_with fail
          go_ret
          exact ⟨rfl, hB8.out⟩
end Go.Proofs.YtkagmkejndjepaaGreatDoor
