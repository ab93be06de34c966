/-
  lat.turned: the rows of the order upside down, in new memory. Conditions: at most 64 rows, words of 64 bits within the rows; the library's table lies as laid.
-/
import Derived.Test.YtlhfdedjboanfaaDoorLtOrd
import Derived.Deep.OwnRows
namespace Go.Proofs.YtlhfdedjboanfaaDoor.L
open Go.RowKit Go.Shelf Go.Lt
attribute [local go_sem] Oper.semAt_some

/-- the set of those of the first k rows that have place j -/
def down (us : List Nat) : Nat → Nat → Nat
  | 0, _ => 0
  | k + 1, j => if (row us k).testBit j then down us k j ||| 2 ^ k else down us k j
theorem down_bit (us : List Nat) (j i : Nat) : ∀ k, (down us k j).testBit i = (decide (i < k) && (row us i).testBit j)
  | 0 => by simp [down]
  | k + 1 => by
    unfold down
    by_cases h : (row us k).testBit j = true
    · rw [if_pos h, Nat.testBit_or, down_bit us j i k, Nat.testBit_two_pow]
      by_cases e : i = k
      · subst e; simp [h]
      · have : decide (k = i) = false := by simp; omega
        rw [this]
        by_cases g : i < k
        · have : i < k + 1 := by omega
          simp [g, this]
        · have : ¬ i < k + 1 := by omega
          simp [g, this]
    · rw [if_neg h, down_bit us j i k]
      have h : (row us k).testBit j = false := by simpa using h
      by_cases e : i = k
      · subst e; simp [h]
      · by_cases g : i < k
        · have : i < k + 1 := by omega
          simp [g, this]
        · have : ¬ i < k + 1 := by omega
          simp [g, this]
theorem down_lt (us : List Nat) (k j : Nat) (hk : k ≤ 64) : down us k j < 18446744073709551616 := by
  have : down us k j < 2 ^ 64 := lt_of_bits fun b hb => by rw [down_bit]; simp; omega
  simpa using this
def turnedL (us : List Nat) : List Nat := (List.range us.length).map (down us us.length)
theorem turnedL_length (us : List Nat) : (turnedL us).length = us.length := by simp [turnedL]
theorem row_turned (us : List Nat) (j : Nat) (hj : j < us.length) : row (turnedL us) j = down us us.length j := by
  unfold row turnedL
  rw [List.getD_eq_getElem?_getD, List.getElem?_map, List.getElem?_range hj]
  rfl
theorem W64.turned (us : List Nat) (hl : us.length ≤ 64) : W64 (turnedL us) := W64.of fun u hu => by
  unfold turnedL at hu
  obtain ⟨j, _, rfl⟩ := List.mem_map.1 hu
  exact down_lt us _ _ hl

/-- what a round has done so far -/
def partly (us : List Nat) (k : Nat) (pre : List (PAt (row us k))) (j : Nat) : Nat := if j ∈ pre.map (·.1) then down us k j ||| 2 ^ k else down us k j
theorem partly_nil (us : List Nat) (k j : Nat) : partly us k [] j = down us k j := by simp [partly]
theorem partly_all {us : List Nat} {k : Nat} {ys : List (PAt (row us k))} (hy : ys.map (·.1) = places (row us k)) (j : Nat) (hj : j < 64) : partly us k ys j = down us (k + 1) j := by
  unfold partly
  rw [hy]
  show _ = (if (row us k).testBit j then down us k j ||| 2 ^ k else down us k j)
  by_cases h : (row us k).testBit j = true
  · rw [if_pos h, if_pos (show j ∈ places (row us k) from mem_upto.2 ⟨hj, h⟩)]
  · rw [if_neg h, if_neg (fun (g : j ∈ places (row us k)) => h (mem_upto.1 g).2)]
theorem partly_lt (us : List Nat) (k : Nat) (pre : List (PAt (row us k))) (j : Nat) (hk : k < 64) : partly us k pre j < 18446744073709551616 := by
  have h1 := down_lt us k j (by omega)
  have h2 : 2 ^ k < 2 ^ 64 := Nat.pow_lt_pow_right (by omega) hk
  unfold partly
  have h3 : down us k j ||| 2 ^ k < 2 ^ 64 := Nat.or_lt_two_pow (by simpa using h1) h2
  have h4 : (2 : Nat) ^ 64 = 18446744073709551616 := by decide
  split <;> omega
theorem partly_snoc (us : List Nat) (k : Nat) (pre : List (PAt (row us k))) (x : PAt (row us k)) (j : Nat) :
    partly us k (pre ++ [x]) j = if j = x.1 then partly us k pre x.1 ||| 2 ^ k else partly us k pre j := by
  unfold partly
  rw [List.map_append]
  by_cases e : j = x.1
  · subst e
    rw [if_pos rfl, if_pos (List.mem_append.2 (.inr (by simp)))]
    by_cases g : x.1 ∈ pre.map (·.1)
    · rw [if_pos g, Nat.or_assoc, Nat.or_self]
    · rw [if_neg g]
  · rw [if_neg e]
    have : (j ∈ pre.map (·.1) ++ [x].map (·.1)) ↔ j ∈ pre.map (·.1) := by
      rw [List.mem_append]
      simp [e]
    by_cases g : j ∈ pre.map (·.1)
    · rw [if_pos g, if_pos (this.2 g)]
    · rw [if_neg g, if_neg (fun h => g (this.1 h))]

theorem or_pow (x k : Nat) (hx : x < 18446744073709551616) (hk : k < 64) : bits BinOp.or IntKind.u64 (x : Int) (IntKind.u64.wrap (2 ^ k)) = ((x ||| 2 ^ k : Nat) : Int) := by
  have h2 : 2 ^ k < 2 ^ 64 := Nat.pow_lt_pow_right (by omega) hk
  have h4 : (2 : Nat) ^ 64 = 18446744073709551616 := by decide
  have e : IntKind.u64.wrap (2 ^ k) = ((2 ^ k : Nat) : Int) := by
    have h1 : (2 : Int) ^ k = ((2 ^ k : Nat) : Int) := by simp
    rw [IntKind.wrap_u64, h1]
    generalize 2 ^ k = q at h2 ⊢
    omega
  rw [e]
  exact u64_or_nat x (2 ^ k) hx (by omega)
theorem grownBy_setCell'' (W : World) (b i : Nat) (v : Value) : W.grownBy (W.setCell ⟨b, i, none⟩ v) (some b) :=
  ⟨rfl, rfl, rfl, by simp, fun k _ hne => Below.heap_setCell W ⟨b, i, none⟩ v k (fun e => hne (by rw [e]))⟩
theorem row_cells {W : World} {b : Nat} {t : TypeId} {n : Nat} {f : Nat → Value} (h : W.rowIs b t n f) : ∃ cs fr, W.heap[b]? = some (.cells cs t fr) := by
  obtain ⟨cs, h1, _⟩ := h
  exact ⟨cs, _, h1⟩
theorem row_turn {X Y : World} {row : Option Nat} {b : Nat} {t : TypeId} {n : Nat} {f : Nat → Value} (h : X.rowIs b t n f) (hg : X.grownBy Y row) (hr : ∀ r, row = some r → ∃ o : Obj, X.heap[r]? = some o ∧ o.isCells = false) : Y.rowIs b t n f :=
  h.of_block (hg.block b h.lt fun e => by
    obtain ⟨o, ho, hc⟩ := hr b e.symm
    obtain ⟨cs, fr, h1⟩ := row_cells h
    rw [h1] at ho
    cases ho
    cases hc)
theorem takeAll_row : ∀ (Ds : List Nat) {W : World} {base b : Nat} {t : TypeId} {n : Nat} {f : Nat → Value}, Marks base Ds W → W.rowIs b t n f → (takeAll W Ds).rowIs b t n f
  | [], _, _, _, _, _, _, _, h => h
  | D :: r, W, base, b, t, n, f, hm, h => by
    have hD := (hm.at_ D (List.mem_cons_self ..)).2
    refine takeAll_row r (base := base) (W := W.putObj D (.deferred none)) ⟨fun E hE => ⟨(hm.at_ E (List.mem_cons_of_mem _ hE)).1, ?_⟩, (List.nodup_cons.1 hm.nodup).2⟩ (row_turn h (grownBy_putObj' W D _) (fun r e => by cases e; exact ⟨_, hD, rfl⟩))
    exact (World.putObj_heap_other (fun e => by subst e; exact (List.nodup_cons.1 hm.nodup).1 hE)).trans (hm.at_ E (List.mem_cons_of_mem _ hE)).2
theorem row_words {W : World} {g B : Nat} {us : List Nat} (h : W.rowIs g 72 us.length (fun j => .int .u64 (row us j : Nat))) (hB : g < B) : Words W B (some ⟨g, 0, none⟩) us := fun _ =>
  ⟨g, 0, rfl, hB, fun j hj => by rw [Nat.zero_add]; exact h.cell hj⟩

theorem info_u64 : (Tryd.prog.info? 72).map (fun i => (i.zero, i.size, i.bytes)) = some (some (.int .u64 0), 1, 8) := by kernel_rfl

set_option maxRecDepth 100000 in
set_option maxHeartbeats 4000000 in
theorem turned_any (A : Option Addr) (us : List Nat) (c : Nat) (w : World) (hE : Env w) (hU : Words w w.heap.size A us) (h64 : W64 us) (hl : us.length ≤ 64) (hin : ∀ a, a < us.length → row us a < 2 ^ us.length) :
    Calls Tryd.prog 55 #[.slice A us.length c] w fun e w' => e = .returned (.slice (some ⟨w.heap.size, 0, none⟩) us.length us.length) ∧ Words w' w'.heap.size (some ⟨w.heap.size, 0, none⟩) (turnedL us) ∧ Below w.heap.size w w' := by
  refine (callsIn_wide (n := 6)).1 ?_
  refine callsIn_of_wp_marks Tryd.func55 rfl trivial ?_ rfl
  simp only [Tryd.ntmps55, List.size_toArray, List.length_cons, List.length_nil, Nat.reduceAdd, Nat.reduceSub, Array.replicate_succ, Array.replicate_zero, List.push_toArray, List.append_toArray, List.nil_append, List.cons_append]
  have hmk := run_make_row' (P := Tryd.prog) 23 72 (.int .u64 0) 8 Tryd.underlying23 info_u64 rfl .i64 .i64 us.length (by omega) (by omega)
  gi_wp2
  clear hmk
  generalize hn0 : w.heap.size = n0 at *
  obtain ⟨W2, hW2⟩ : ∃ W2, (w.alloc (.cells (madeCells #[.int .u64 0] us.length) 72)).alloc (.cells #[.slice (some ⟨n0, 0, none⟩) us.length us.length] 23) = W2 := ⟨_, rfl⟩
  have hB2 : Below n0 w W2 := by
    rw [← hW2]
    exact ((Below.refl n0 w).alloc (by omega) _).alloc (by simp; omega) _
  have hsz : W2.heap.size = n0 + 2 := by rw [← hW2, ← hn0]; simp
  have b0 : W2.rowIs n0 72 us.length (fun _ => .int .u64 0) := by
    rw [← hW2, ← hn0]; exact (World.rowIs_made w _ _ _).alloc _
  have b1 : Boxed W2 (n0 + 1) 23 (.slice (some ⟨n0, 0, none⟩) us.length us.length) := by
    rw [← hW2, ← hn0]
    have := Boxed.new (w.alloc (.cells (madeCells #[.int .u64 0] us.length) 72)) 23 (.slice (some ⟨w.heap.size, 0, none⟩) us.length us.length)
    rw [World.size_alloc] at this
    exact this
  have h4 : 1 ≤ n0 := by rw [← hn0]; exact hE.four
  have hle : n0 ≤ w.heap.size := by omega
  have HN : Hid (w.heap.size = n0) := hn0
  rw [hW2]
  clear hW2 hn0
  refine wpIn_loop (fun a wr => ∃ (k : Nat) (Ds : List Nat) (u4 u5 u6 u13 u14 u15 u16 u17 u18 u19 u20 u21 u22 u23 u24 u25 u26 u27 u28 u29 : Value), k ≤ us.length ∧ wr.rowIs n0 72 us.length (fun j => .int .u64 (down us k j : Nat)) ∧ Boxed wr (n0 + 1) 23 (.slice (some ⟨n0, 0, none⟩) us.length us.length) ∧ Marks n0 Ds wr ∧ Below n0 w wr ∧ n0 + 2 ≤ wr.heap.size ∧
      a = { tmps := #[.slice A us.length c, undef, .slice none 0 0, .pointer (some ⟨n0 + 1, 0, none⟩), u4, u5, u6, .slice A us.length c, .int .i64 us.length, .slice (some ⟨n0, 0, none⟩) us.length us.length, .slice A us.length c, .int .i64 us.length, .int .i64 (k : Nat), u13, u14, u15, u16, u17, u18, u19, u20, u21, u22, u23, u24, u25, u26, u27, u28, u29], defers := Ds.map rmark }) (fun a _ => us.length - (intOf (a.tmps.getD 12 undef)).toNat) ?atStart ?round
  case atStart =>
    exact ⟨0, [], undef, undef, undef, undef, undef, undef, undef, undef, undef, undef, undef, undef, undef, undef, undef, undef, undef, undef, undef, undef, Nat.zero_le _, b0, b1, Marks.nil _ _, hB2, by omega, rfl⟩
  case round =>
    rintro _ wr ⟨k, Ds, u4, u5, u6, u13, u14, u15, u16, u17, u18, u19, u20, u21, u22, u23, u24, u25, u26, u27, u28, u29, hk, c0, c1, hM, hB, hszr, rfl⟩
    have v1 := c1.cell
    by_cases hlt : k < us.length
    · obtain ⟨b, off, rfl, hb, hc⟩ := hU (by intro e; subst e; simp at hlt)
      have hck := (hB.cell (p := ⟨b, off + k, none⟩) hb).trans (hc k hlt)
      have hr := h64 k
      clear hc
      gi_wp2_with (refine ⟨trivial, ?_⟩; gi_at_call 75; refine (callsIn_wide.2 (places_any (row us k) _)).mono ?_; rintro e w' ⟨rfl, rfl⟩)
      generalize hm : wr.heap.size = m at *
      obtain ⟨W5, hW5⟩ : ∃ W5, (wr.alloc (.cells #[.int .i64 (k : Nat)] 3)).alloc (.cells #[.int .u64 (row us k : Nat)] 72) = W5 := ⟨_, rfl⟩
      have hB5 : Below n0 w W5 := by
        rw [← hW5]
        exact (hB.alloc (by omega) _).alloc (by simp; omega) _
      have hsz5 : W5.heap.size = m + 2 := by rw [← hW5, ← hm]; simp
      have d0 : W5.rowIs n0 72 us.length (fun j => .int .u64 (down us k j : Nat)) := by rw [← hW5]; exact (c0.alloc _).alloc _
      have d1 : Boxed W5 (n0 + 1) 23 (.slice (some ⟨n0, 0, none⟩) us.length us.length) := by rw [← hW5]; exact (c1.alloc _).alloc _
      have d2 : Boxed W5 m 3 (.int .i64 (k : Nat)) := by rw [← hW5, ← hm]; exact (Boxed.new wr _ _).alloc _
      have d4 : Boxed W5 (m + 1) 72 (.int .u64 (row us k : Nat)) := by
        rw [← hW5, ← hm]
        have := Boxed.new (wr.alloc (.cells #[.int .i64 (k : Nat)] 3)) 72 (.int .u64 (row us k : Nat))
        rw [World.size_alloc] at this
        exact this
      have hM5 : Marks n0 Ds W5 := by rw [← hW5]; exact (hM.others (KeepsOthers.alloc _ _)).others (KeepsOthers.alloc _ _)
      have hMlt : ∀ D ∈ Ds, D < m := by rw [← hm]; exact hM.lt
      have hE5 : Env W5 := hE.below h4 hB5
      have hrin := hin k hlt
      rw [hW5]
      clear hW5 v1
      refine wpIn_rangeFunc_ownF rfl (by omega) (gf := 83) (lb := #[.pointer (some ⟨m + 1, 0, none⟩)]) rfl trivial (enters_of Tryd.func83 (by kernel_rfl) rfl)
        (it_stops 5 (m + 1) n0 (by omega) (row us k) hr W5 (by omega) d4.cell hE5 h4) belowK_t (belowK_b (by omega)) (Below.refl _ _) (fun _ => rfl)
        (fun pre W => (W.rowIs n0 72 us.length (fun j => .int .u64 (partly us k pre j : Nat)) ∧ Boxed W (n0 + 1) 23 (.slice (some ⟨n0, 0, none⟩) us.length us.length) ∧ Boxed W m 3 (.int .i64 (k : Nat))) ∧ (Marks n0 Ds W ∧ Below n0 w W))
        (fun _ _ _ => False)
        (OwnFrom.and (Own.from (fun s X Y row hs hg hr => ⟨row_turn hs.1 hg hr, hs.2.1.turn hg hr, hs.2.2.turn hg hr⟩) _) (OwnFrom.and (Marks.own (fun D hD => by have := hMlt D hD; omega)) (ownFrom_below (by omega) (by omega))))
        (fun _ _ _ _ _ hs _ _ => hs)
        ⟨⟨d0.congr (fun j _ => by rw [partly_nil]), d1, d2⟩, hM5, hB5⟩
        (fun x => { tmps := #[.slice (some ⟨b, off, none⟩) us.length c, undef, .slice none 0 0, .pointer (some ⟨n0 + 1, 0, none⟩), .pointer (some ⟨m, 0, none⟩), .int .u64 (row us k : Nat), .int .i64 ((x.1 : Nat) : Int), .slice (some ⟨b, off, none⟩) us.length c, .int .i64 us.length, .slice (some ⟨n0, 0, none⟩) us.length us.length, .slice (some ⟨b, off, none⟩) us.length c, .int .i64 us.length, .int .i64 (k : Nat), .bool true, .int .i64 (k : Nat), .pointer (some ⟨b, off + k, none⟩), .int .u64 (row us k : Nat), .int .u64 (row us k : Nat), .func (.func 83) #[] #[.pointer (some ⟨m + 1, 0, none⟩)], .int .i64 ((x.1 : Nat) : Int), u20, u21, u22, u23, u24, u25, u26, u27, u28, u29], defers := [] }) ?assign ?body ?done ?stop
      case assign =>
        intro l x W K hK
        gi_wp2
        exact hK
      case body =>
        rintro l pre ⟨x, hx⟩ W ⟨⟨c0, c1, c2⟩, hM', hB'⟩ _
        have hxn : x < us.length := testBit_lt hrin hx
        have hD := partly_lt us k pre x (by omega)
        have hxc := c0.cell hxn
        have hxf := c0.frozen x
        have v1 := c1.cell
        have v2 := c2.cell
        have hk63 : k < 64 := by omega
        gi_wp2
        refine wpIn_round_still_tail 8 (by kernel_rfl) (by kernel_rfl) (by kernel_rfl) (fun ⟨_, _, h⟩ => h) ?_
        simp only [List.take_succ_cons, List.take_zero, List.drop_succ_cons, List.drop_zero]
        repeat still_step
        refine wpStill_nil ?_
        change wpList _ _ _ _ _ W.drew
        have c0d : W.drew.rowIs n0 72 us.length (fun j => .int .u64 (partly us k pre j : Nat)) := c0.drew
        have hxc2 := c0d.cell hxn
        have hxf2 := c0d.frozen x
        go_wp2
        gi_wp2
        refine ⟨(KeepsOthers.drew W).trans (KeepsOthers.setCell _ _ _), ((Below.refl n0 W).drew).setCell (p := ⟨n0, x, none⟩) (Nat.le_refl _) _, ⟨?_, (c1.drewN 1).kept (grownBy_setCell'' _ _ _ _) (by simp), (c2.drewN 1).kept (grownBy_setCell'' _ _ _ _) (by simp; omega)⟩, (hM'.others (KeepsOthers.drew W)).others (KeepsOthers.setCell _ _ _), (hB'.drew).setCell (p := ⟨n0, x, none⟩) (Nat.le_refl _) _⟩
        refine (c0d.set x _).congr fun j _ => ?_
        rw [partly_snoc]
        by_cases e : j = x
        · rw [if_pos e, if_pos e, or_pow _ _ hD hk63]
        · rw [if_neg e, if_neg e]
      case done =>
        rintro D ys W hD hys ⟨⟨c0, c1, _⟩, hM', hB'⟩ hK
        have c0' : W.rowIs n0 72 us.length (fun j => .int .u64 (down us (k + 1) j : Nat)) := c0.congr fun j hj => by rw [partly_all hys j (by omega)]
        have hM2 : Marks n0 (D :: Ds) W := hM'.cons (by omega) (fun E hE => by have := hMlt E hE; omega) hK
        have hszW : n0 + 2 ≤ W.heap.size := by have := (Array.getElem?_eq_some_iff.1 hK).1; omega
        gi_wp2
        rw [show ((k : Int) + 1) = ((k + 1 : Nat) : Int) from by omega]
        refine ⟨⟨k + 1, D :: Ds, _, _, _, _, _, _, _, _, _, _, _, _, _, _, _, _, _, _, _, _, by omega, c0', c1, hM2, hB', hszW, rfl⟩, ?_⟩
        simp [intOf]; omega
      case stop =>
        rintro D cc pre W _ _ h _
        exact h.elim
    · obtain rfl : k = us.length := by omega
      gi_wp2
      refine leaves_marks Ds (base := n0) hM ?_
      have hr1 := takeAll_row _ hM c0
      have hr2 := takeAll_below Ds (n₀ := n0) (Nat.le_refl _) (by omega) hM hB
      generalize takeAll wr Ds = W9 at hr1 hr2 ⊢
      refine ⟨.slice (some ⟨n0, 0, none⟩) us.length us.length, ?_, by rw [HN.out], ?_, by rw [HN.out]; exact hr2⟩
      · simp [results, Tryd.f55, go_sem]
      · rw [HN.out]
        refine row_words ?_ hr1.lt
        rw [turnedL_length]
        exact hr1.congr fun j hj => by rw [row_turned us j hj]
end Go.Proofs.YtlhfdedjboanfaaDoor.L
