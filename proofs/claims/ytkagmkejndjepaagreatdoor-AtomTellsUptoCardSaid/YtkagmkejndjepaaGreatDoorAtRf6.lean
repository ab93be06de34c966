/-
  The document's own Add. Condition: the numbers can be read, at most 2^22.
-/
import Derived.Test.YtkagmkejndjepaaGreatDoorAtRf1
namespace Go.At
variable {α : Type} {lt : α → α → Bool}
/-- what is all less stays ahead -/
theorem ins_ahead (h : Lin lt) (x d : α) : ∀ (l : List α) (k : Nat), (∀ j, j < k → j < l.length → lt (l.getD j d) x = true) → ins lt x l = l.take k ++ ins lt x (l.drop k)
  | _, 0, _ => rfl
  | [], k + 1, _ => by simp
  | y :: r, k + 1, hk => by
    have h0 : lt y x = true := by simpa using hk 0 (by omega) (by simp)
    have h1 : lt x y = false := h.anti h0
    show (if lt x y then _ else if lt y x then y :: ins lt x r else _) = _
    rw [h1, h0, if_neg (by simp), if_pos rfl, ins_ahead h x d r k fun j a b => by simpa using hk (j + 1) (by omega) (by simpa using b)]
    rfl
theorem ins_at (h : Lin lt) (x d : α) (l : List α) (k : Nat) (hk : k < l.length) (hl : ∀ j, j < k → j < l.length → lt (l.getD j d) x = true) (hn : lt (l.getD k d) x = false) :
    (lt x (l.getD k d) = true → ins lt x l = l.take k ++ [x] ++ l.drop k) ∧ (lt x (l.getD k d) = false → ins lt x l = l) := by
  have e : l.drop k = l.getD k d :: l.drop (k + 1) := by
    rw [List.drop_eq_getElem_cons hk, List.getD_eq_getElem?_getD, List.getElem?_eq_getElem hk]; rfl
  have e0 := ins_ahead h x d l k hl
  constructor
  · intro h1
    rw [e0, e]
    show l.take k ++ (if lt x (l.getD k d) then x :: l.getD k d :: l.drop (k + 1) else _) = _
    rw [h1, if_pos rfl, List.append_assoc]
    rfl
  · intro h1
    have e1 : ins lt x (l.getD k d :: l.drop (k + 1)) = l.getD k d :: l.drop (k + 1) := by
      show (if lt x (l.getD k d) then _ else if lt (l.getD k d) x then _ else _) = _
      rw [h1, hn]; rfl
    rw [e0, e, e1, ← e, List.take_append_drop]
theorem ins_end (h : Lin lt) (x d : α) (l : List α) (hl : ∀ j, j < l.length → lt (l.getD j d) x = true) : ins lt x l = l ++ [x] := by
  rw [ins_ahead h x d l l.length fun j _ hj => hl j hj, List.take_length, List.drop_length]; rfl
end Go.At
namespace Go.Proofs.YtkagmkejndjepaaGreatDoor
open Go.RowKit Go.Shelf Go.At
attribute [local go_sem] Oper.semAt_some

/-- an append to what is owned, of a row that may be nil, at a step of a region that draws its order -/
theorem step_append_sl {P : Program} {ops : Array Oper} {o : Oper} {a : Act} {w : World} {K : Act → World → Prop} {Q : Exit → Act → World → Prop} {E : Prop}
    (hg : o.guard = none) (s x : Operand) (t : TypeId) (hop : o.op = Op.call { callee := Callee.builtin Builtin.append, args := #[s, x], argTypes := #[t, t] })
    (base : Nat) (e : TypeId) (i : TypeInfo) (z : Value) (size bytes : Nat) (h1 : P.underlying t = some (.slice e)) (h2 : P.info? e = some i) (h3 : i.zero = some z) (h4 : i.size = size) (h5 : i.bytes = bytes) (h6 : z.cells.size = size) (h7 : 0 < size)
    (v : Value) (n : Nat) (xs : List Value) (hs : a.eval s = v) (hown : w.ownsRow base e size v n xs)
    (X : Option Addr) (m c : Nat) (news : List Value) (hx : a.eval x = .slice X m c) (hX : X = none → m = 0 ∧ c = 0) (hn : news.length = m * size) (hc : ∀ ad, X = some ad → ∀ j u, news[j]? = some u → w.cell? (ad.add j) = some u) (h1c : ∀ u ∈ news, u.oneCell' = true)
    (b1 : n + m ≤ maxLen) (b2 : (n + m) * bytes ≤ 140737488355328) (hbase : base ≤ w.heap.size)
    (hK : ∀ v' w', w'.ownsRow base e size v' (n + m) (xs ++ news) → (∀ B X0, Below B X0 w → B ≤ w.heap.size → (∀ k, v.ownBlock = some k → B ≤ k) → Below B X0 w') → K (a.put o.dst v') w') :
    if Region.wanted o (yielded ops a.tmps) = true then Oper.wp P o a w K Q else E := by
  cases X with
  | some ad =>
    exact step_append_held hg s x t hop base e i z size bytes h1 h2 h3 h4 h5 h6 h7 v n xs hs hown ad m c news hx hn (hc ad rfl) h1c b1 b2 hbase fun v' w' ho hgr => hK v' w' ho fun B X0 hB hs ho => hB.grown hgr hs ho
  | none =>
    obtain ⟨rfl, rfl⟩ := hX rfl
    obtain rfl : news = [] := List.eq_nil_of_length_eq_zero (by rw [hn, Nat.zero_mul])
    have hw : Region.wanted o (yielded ops a.tmps) = true := by simp [Region.wanted, hg]
    rw [if_pos hw]
    have hrun := run_append_owned_none (P := P) w base t o.type e i size h1 h2 v n xs hown
    unfold Oper.wp
    simp [execOp, hop, resolve, invoke, builtin, hs, hx, hrun, Result.andThen]
    exact hK v w (by rw [List.append_nil]; exact hown) fun B X0 hB _ _ => hB
theorem own_base {W : World} {base size n : Nat} {e : TypeId} {v : Value} {xs : List Value} (h : W.ownsRow base e size v n xs) (_hs : 0 < size) (hn : n ≠ 0) : base ≤ W.heap.size := by
  obtain ⟨g, cap, _, hb, hg, _⟩ := own_cells h hn
  omega
theorem ints_one (l : List Int) : ∀ u ∈ l.map (Value.int .i64), u.oneCell' = true := by
  intro u hu
  rw [List.mem_map] at hu
  obtain ⟨a, _, rfl⟩ := hu
  rfl
/-- the numbers at a place of a row, as an append reads them -/
theorem irow_news {W : World} {b off k : Nat} {l m : List Int} (h : IRow W b off l) (hm : ∀ j, j < m.length → k + j < l.length ∧ m.getD j 0 = l.getD (k + j) 0) :
    ∀ j u, (m.map (Value.int .i64))[j]? = some u → W.cell? ((⟨b, off + k, none⟩ : Addr).add j) = some u := fun j u hj => by
  rw [List.getElem?_map] at hj
  cases hc : m[j]? with
  | none => rw [hc] at hj; cases hj
  | some y =>
    rw [hc] at hj
    injection hj with hj
    obtain ⟨hlt, he⟩ := List.getElem?_eq_some_iff.1 hc
    obtain ⟨h1, h2⟩ := hm j hlt
    have h3 := h (k + j) h1
    rw [← h2, List.getD_eq_getElem?_getD, hc] at h3
    rw [Addr.add_lit, Nat.add_assoc, ← hj]
    exact h3
theorem take_at (l : List Int) (k : Nat) : ∀ j, j < (l.take k).length → 0 + j < l.length ∧ (l.take k).getD j 0 = l.getD (0 + j) 0 := fun j hj => by
  rw [List.length_take] at hj
  rw [Nat.zero_add]
  exact ⟨by omega, by rw [List.getD_eq_getElem?_getD, List.getD_eq_getElem?_getD, List.getElem?_take, if_pos (by omega)]⟩
theorem drop_at (l : List Int) (k : Nat) : ∀ j, j < (l.drop k).length → k + j < l.length ∧ (l.drop k).getD j 0 = l.getD (k + j) 0 := fun j hj => by
  rw [List.length_drop] at hj
  exact ⟨by omega, by rw [List.getD_eq_getElem?_getD, List.getD_eq_getElem?_getD, List.getElem?_drop]⟩

set_option maxRecDepth 100000 in
set_option maxHeartbeats 4000000 in
theorem add_any (A : Option Addr) (l : List Int) (c : Nat) (x : Int) (w : World) (hP : Nms w A l) (hok : OkS A l.length c) (hz : l = [] → A = none ∧ c = 0) (hl : l.length ≤ 4194304) :
    Calls Tryz.prog 35 #[.slice A l.length c, .int .i64 x] w fun e w' => (∃ A c, e = .returned (.slice A (ins ltI x l).length c) ∧ Nms w' A (ins ltI x l) ∧ OkS A (ins ltI x l).length c) ∧ Below w.heap.size w w' := by
  obtain ⟨i0, hi, hi2⟩ := Option.map_eq_some_iff.1 infoRI
  obtain ⟨hz0, hz1, hz2⟩ : i0.zero = some (.int .i64 0) ∧ i0.size = 1 ∧ i0.bytes = 8 := by
    injection hi2 with h1 h2; injection h2 with h2 h3; exact ⟨h1, h2, h3⟩
  replace hi := Lib.hid hi
  replace hz0 := Lib.hid hz0
  replace hz1 := Lib.hid hz1
  replace hz2 := Lib.hid hz2
  clear hi2
  obtain ⟨o1, o2, o3⟩ := hok
  obtain ⟨L, hL⟩ : ∃ L, Hid (l.length = L) := ⟨_, rfl⟩
  have hLl := hL.out
  rw [hLl] at hl o1 ⊢
  clear hLl
  have hmx : maxLen = 9223372036854775807 := rfl
  rw [hmx] at o2
  clear hmx
  obtain ⟨r, hr⟩ : ∃ r, ins ltI x l = r := ⟨_, rfl⟩
  rw [hr]
  replace hr := Lib.hid hr
  replace hz := Lib.hid hz
  replace o3 := Lib.hid o3
  go_enter Tryz.func35, Tryz.ntmps35
  go_wp2_with fail
  go_loopw [5] (fun i wr => ∃ k : Nat, k ≤ L ∧ i = .int .i64 k ∧ Hid (∀ j, j < k → j < l.length → ltI (l.getD j 0) x = true) ∧ Hid (wr = w)) (fun i _ => L - (intOf i).toNat)
  case atStart => exact ⟨0, Nat.zero_le _, rfl, fun j hj => absurd hj (Nat.not_lt_zero j), by first | rfl | trivial⟩
  case round =>
    obtain ⟨k, hk, rfl, hno, hB⟩ := hrel
    obtain rfl : wr = w := hB.out
    clear hB
    by_cases hlt : k < L
    · have hkl : k < l.length := by rw [hL.out]; exact hlt
      obtain ⟨b, off, rfl, hb, hc⟩ := hP (by intro e; subst e; simp at hkl)
      have c0 := hc k hkl
      have hins := Lib.hid (ins_at linI x 0 l k hkl hno.out)
      have hnx : Hid (ltI (l.getD k 0) x = true → ∀ j, j < k + 1 → j < l.length → ltI (l.getD j 0) x = true) := fun h j hj hl => by
        by_cases e : j = k
        · rw [e]; exact h
        · exact hno.out j (by omega) hl
      generalize l.getD k 0 = y at c0 hins hnx
      by_cases h1 : y < x
      · have hd : decide (y < x) = true := decide_eq_true h1
        have hnx2 := Lib.hid (hnx.out hd)
        clear hins hnx hc
        go_wp2_with fail
        go_roundw
        case rel => exact ⟨k + 1, by omega, by go_num, hnx2.out, by first | rfl | trivial⟩
        case measure => simp [intOf]; omega
      · have hd : decide (y < x) = false := decide_eq_false h1
        by_cases h2 : y = x
        · subst h2
          have e := (hins.out hd).2 hd
          rw [hr.out] at e
          subst e
          clear hins hnx hc hd
          go_wp2_with fail
          go_ret
          exact ⟨⟨some ⟨b, off, none⟩, c, by rw [hL.out]; rfl, hP, by rw [hL.out]; exact ⟨o1, o2, o3.out⟩⟩, Below.refl _ _⟩
        · have hd2 : decide (y = x) = false := decide_eq_false h2
          have hd3 : (y == x) = false := beq_eq_false_iff_ne.2 h2
          have e := (hins.out hd).1 (decide_eq_true (by omega))
          rw [hr.out] at e
          replace e := Lib.hid e
          clear hins hnx
          have hkc : k ≤ c := by omega
          have hkc2 : (k : Int) ≤ (c : Int) := by omega
          have hkL : (k : Int) ≤ (L : Int) := by omega
          have hck : ¬ c = k := by omega
          have hrow1 : Hid (∀ W, Below wr.heap.size wr W → ∀ ad : Addr, some (⟨b, off, none⟩ : Addr) = some ad → ∀ j u, ((l.take k).map (Value.int .i64))[j]? = some u → W.cell? (ad.add j) = some u) := fun W hW ad had => by
            injection had with had
            subst had
            exact irow_news (k := 0) (hc.block (hW.block b hb)) (take_at l k)
          have hrow2 : Hid (∀ W, Below wr.heap.size wr W → ∀ ad : Addr, some (⟨b, off + k, none⟩ : Addr) = some ad → ∀ j u, ((l.drop k).map (Value.int .i64))[j]? = some u → W.cell? (ad.add j) = some u) := fun W hW ad had => by
            injection had with had
            subst had
            exact irow_news (k := k) (hc.block (hW.block b hb)) (drop_at l k)
          have hlt1 : ((l.take k).map (Value.int .i64)).length = k * 1 := by rw [List.length_map, List.length_take, hL.out, Nat.mul_one]; omega
          have hlt2 : ((l.drop k).map (Value.int .i64)).length = (L - k) * 1 := by rw [List.length_map, List.length_drop, hL.out, Nat.mul_one]
          have hbA : Hid (Below wr.heap.size wr wr.drew) := (Below.refl _ _).drew
          have hbB : Hid (Below wr.heap.size wr (wr.drew.alloc (.cells #[.int .i64 x] 3))) := (Below.refl wr.heap.size wr).drew.alloc (Nat.le_refl _) _
          have hsB : Hid (wr.heap.size + 1 ≤ (wr.drew.alloc (.cells #[.int .i64 x] 3)).heap.size) := by show _ ≤ _; rw [World.size_alloc]; exact Nat.le_refl _
          have hxB : Hid (∀ W, Below (wr.heap.size + 1) (wr.drew.alloc (.cells #[.int .i64 x] 3)) W → ∀ j u, [Value.int .i64 x][j]? = some u → W.cell? ((⟨wr.heap.size, 0, none⟩ : Addr).add j) = some u) := fun W hW j u hj => (hW.cell (p := (⟨wr.heap.size, 0, none⟩ : Addr).add j) (by rw [Addr.add_lit]; show wr.heap.size < wr.heap.size + 1; omega)).trans (news_int wr.drew x _ j u hj)
          go_wp2_with fail
          go_region_law (first
            | (refine step_append_sl rfl (.const (.slice none 0 0)) (.tmp 35) 29 rfl wr.heap.size 3 i0 (.int .i64 0) 1 8 Tryz.underlying29 hi.out hz0.out hz1.out hz2.out rfl (by decide) (.slice none 0 0) 0 [] (by go_simp) (World.ownsRow_nil _ _ _ _) (some ⟨b, off, none⟩) k c ((l.take k).map (Value.int .i64)) (by go_simp) (fun h => by cases h) hlt1 (hrow1.out _ hbA.out) (ints_one _) (by unfold maxLen; omega) (by omega) hbA.out.size ?_
               intro v1 w1 hown1 hg1
               have hb1 : Hid (Below wr.heap.size wr w1) := hg1 _ _ hbA.out hbA.out.size (fun _ h => by cases h)
               replace hown1 := Lib.hid hown1
               have hown1a := Lib.hid (own_later hown1.out (later_alloc w1 (.cells #[.int .i64 x] 3)))
               have hb1a : Hid (Below wr.heap.size wr (w1.alloc (.cells #[.int .i64 x] 3))) := hb1.out.alloc hb1.out.size _
               have hx1a : Hid (∀ j u, [Value.int .i64 x][j]? = some u → (w1.alloc (.cells #[.int .i64 x] 3)).cell? ((⟨w1.heap.size, 0, none⟩ : Addr).add j) = some u) := news_int w1 x _
               clear hg1)
            | (refine step_append_sl rfl (.const (.slice none 0 0)) (.tmp 35) 29 rfl (wr.heap.size + 1) 3 i0 (.int .i64 0) 1 8 Tryz.underlying29 hi.out hz0.out hz1.out hz2.out rfl (by decide) (.slice none 0 0) 0 [] (by go_simp) (World.ownsRow_nil _ _ _ _) (some ⟨b, off, none⟩) k c ((l.take k).map (Value.int .i64)) (by go_simp) (fun h => by cases h) hlt1 (hrow1.out _ hbB.out) (ints_one _) (by unfold maxLen; omega) (by omega) hsB.out ?_
               intro v1 w1 hown1 hg1
               have hb1 : Hid (Below wr.heap.size wr w1) := hg1 _ _ hbB.out hbB.out.size (fun _ h => by cases h)
               have hx1 : Hid (∀ j u, [Value.int .i64 x][j]? = some u → w1.cell? ((⟨wr.heap.size, 0, none⟩ : Addr).add j) = some u) := hxB.out w1 (hg1 (wr.heap.size + 1) (wr.drew.alloc (.cells #[.int .i64 x] 3)) (Below.refl _ _) hsB.out (fun _ h => by cases h))
               replace hown1 := Lib.hid hown1
               clear hg1)
            | (refine step_append_sl rfl (.tmp 36) (.tmp 38) 29 rfl (wr.heap.size + 1) 3 i0 (.int .i64 0) 1 8 Tryz.underlying29 hi.out hz0.out hz1.out hz2.out rfl (by decide) v1 (0 + k) ([] ++ ((l.take k).map (Value.int .i64))) (by go_simp) hown1.out (some ⟨wr.heap.size, 0, none⟩) 1 1 [Value.int .i64 x] (by go_simp) (fun h => by cases h) rfl (fun ad h => by injection h with h; subst h; exact hx1.out) (news_int1 x) (by unfold maxLen; omega) (by omega) (show wr.heap.size + 1 ≤ w1.heap.size from World.block_lt_of_cell? _ _ (hx1.out 0 _ rfl)) ?_
               intro v2 w2 hown2 hg2
               have hb2 : Hid (Below wr.heap.size wr w2) := hg2 _ _ hb1.out hb1.out.size (fun k h => Nat.le_of_succ_le (own_block hown1.out k h))
               replace hown2 := Lib.hid hown2
               clear hg2)
            | (refine step_append_sl rfl (.tmp 36) (.tmp 38) 29 rfl wr.heap.size 3 i0 (.int .i64 0) 1 8 Tryz.underlying29 hi.out hz0.out hz1.out hz2.out rfl (by decide) v1 (0 + k) ([] ++ ((l.take k).map (Value.int .i64))) (by go_simp) hown1a.out (some ⟨w1.heap.size, 0, none⟩) 1 1 [Value.int .i64 x] (by go_simp) (fun h => by cases h) rfl (fun ad h => by injection h with h; subst h; exact hx1a.out) (news_int1 x) (by unfold maxLen; omega) (by omega) hb1a.out.size ?_
               intro v2 w2 hown2 hg2
               have hb2 : Hid (Below wr.heap.size wr w2) := hg2 _ _ hb1a.out hb1a.out.size (own_block hown1a.out)
               replace hown2 := Lib.hid hown2
               clear hg2)
            | (refine step_append_sl rfl (.tmp 39) (.tmp 42) 29 rfl _ 3 i0 (.int .i64 0) 1 8 Tryz.underlying29 hi.out hz0.out hz1.out hz2.out rfl (by decide) v2 (0 + k + 1) ([] ++ ((l.take k).map (Value.int .i64)) ++ [Value.int .i64 x]) (by go_simp) hown2.out (some ⟨b, off + k, none⟩) (L - k) (c - k) ((l.drop k).map (Value.int .i64)) (by go_simp) (fun h => by cases h) hlt2 (hrow2.out _ hb2.out) (ints_one _) (by unfold maxLen; omega) (by omega) (own_base hown2.out (by decide) (by omega)) ?_
               intro v3 w3 hown3 hg3
               have hb3 : Hid (Below wr.heap.size wr w3) := hg3 _ _ hb2.out hb2.out.size (fun k h => by have := own_block hown2.out k h; omega)
               replace hown3 := Lib.hid hown3
               clear hg3))
          all_goals
            have h9 := hown3.out
            have e9 : [] ++ (l.take k).map (Value.int .i64) ++ [.int .i64 x] ++ (l.drop k).map (Value.int .i64) = r.map (Value.int .i64) := by rw [e.out]; simp
            have n9 : 0 + k + 1 + (L - k) = r.length := by rw [e.out]; have := hL.out; simp; omega
            rw [e9, n9] at h9
            obtain ⟨A5, c5, e5, h5, -⟩ := nms_own h9
            subst e5
            have hok5 := own_ok h9
            clear hown3 h9
            go_wp2_with fail
            all_goals
              go_ret
              exact ⟨⟨A5, c5, rfl, h5, hok5⟩, hb3.out⟩
    · obtain rfl : k = L := by omega
      have e : Hid (r = l.take k ++ [x] ++ l.drop k) := by
        show _ = _
        rw [← hr.out, ins_end linI x 0 l fun j hj => hno.out j (by rw [← hL.out]; exact hj) hj, List.take_of_length_le (by rw [hL.out]; exact Nat.le_refl _), List.drop_eq_nil_of_le (by rw [hL.out]; exact Nat.le_refl _), List.append_nil]
      by_cases hl0 : l = []
      · obtain ⟨rfl, rfl⟩ := hz.out hl0
        have hk0 : k = 0 := by rw [← hL.out, hl0]; rfl
        subst hk0
        have hrow1 : Hid (∀ W, Below wr.heap.size wr W → ∀ ad : Addr, none = some ad → ∀ j u, ((l.take 0).map (Value.int .i64))[j]? = some u → W.cell? (ad.add j) = some u) := fun W hW ad had => by cases had
        have hrow2 : Hid (∀ W, Below wr.heap.size wr W → ∀ ad : Addr, none = some ad → ∀ j u, ((l.drop 0).map (Value.int .i64))[j]? = some u → W.cell? (ad.add j) = some u) := fun W hW ad had => by cases had
        have hlt1 : ((l.take 0).map (Value.int .i64)).length = 0 * 1 := by rw [hl0]; rfl
        have hlt2 : ((l.drop 0).map (Value.int .i64)).length = 0 * 1 := by rw [hl0]; rfl
        have hbA : Hid (Below wr.heap.size wr wr.drew) := (Below.refl _ _).drew
        have hbB : Hid (Below wr.heap.size wr (wr.drew.alloc (.cells #[.int .i64 x] 3))) := (Below.refl wr.heap.size wr).drew.alloc (Nat.le_refl _) _
        have hsB : Hid (wr.heap.size + 1 ≤ (wr.drew.alloc (.cells #[.int .i64 x] 3)).heap.size) := by show _ ≤ _; rw [World.size_alloc]; exact Nat.le_refl _
        have hxB : Hid (∀ W, Below (wr.heap.size + 1) (wr.drew.alloc (.cells #[.int .i64 x] 3)) W → ∀ j u, [Value.int .i64 x][j]? = some u → W.cell? ((⟨wr.heap.size, 0, none⟩ : Addr).add j) = some u) := fun W hW j u hj => (hW.cell (p := (⟨wr.heap.size, 0, none⟩ : Addr).add j) (by rw [Addr.add_lit]; show wr.heap.size < wr.heap.size + 1; omega)).trans (news_int wr.drew x _ j u hj)
        go_wp2_with fail
        go_region_law (first
          | (refine step_append_sl rfl (.const (.slice none 0 0)) (.tmp 35) 29 rfl wr.heap.size 3 i0 (.int .i64 0) 1 8 Tryz.underlying29 hi.out hz0.out hz1.out hz2.out rfl (by decide) (.slice none 0 0) 0 [] (by go_simp) (World.ownsRow_nil _ _ _ _) none 0 0 ((l.take 0).map (Value.int .i64)) (by go_simp) (fun _ => ⟨rfl, rfl⟩) hlt1 (hrow1.out _ hbA.out) (ints_one _) (by unfold maxLen; omega) (by omega) hbA.out.size ?_
             intro v1 w1 hown1 hg1
             have hb1 : Hid (Below wr.heap.size wr w1) := hg1 _ _ hbA.out hbA.out.size (fun _ h => by cases h)
             replace hown1 := Lib.hid hown1
             have hown1a := Lib.hid (own_later hown1.out (later_alloc w1 (.cells #[.int .i64 x] 3)))
             have hb1a : Hid (Below wr.heap.size wr (w1.alloc (.cells #[.int .i64 x] 3))) := hb1.out.alloc hb1.out.size _
             have hx1a : Hid (∀ j u, [Value.int .i64 x][j]? = some u → (w1.alloc (.cells #[.int .i64 x] 3)).cell? ((⟨w1.heap.size, 0, none⟩ : Addr).add j) = some u) := news_int w1 x _
             clear hg1)
          | (refine step_append_sl rfl (.const (.slice none 0 0)) (.tmp 35) 29 rfl (wr.heap.size + 1) 3 i0 (.int .i64 0) 1 8 Tryz.underlying29 hi.out hz0.out hz1.out hz2.out rfl (by decide) (.slice none 0 0) 0 [] (by go_simp) (World.ownsRow_nil _ _ _ _) none 0 0 ((l.take 0).map (Value.int .i64)) (by go_simp) (fun _ => ⟨rfl, rfl⟩) hlt1 (hrow1.out _ hbB.out) (ints_one _) (by unfold maxLen; omega) (by omega) hsB.out ?_
             intro v1 w1 hown1 hg1
             have hb1 : Hid (Below wr.heap.size wr w1) := hg1 _ _ hbB.out hbB.out.size (fun _ h => by cases h)
             have hx1 : Hid (∀ j u, [Value.int .i64 x][j]? = some u → w1.cell? ((⟨wr.heap.size, 0, none⟩ : Addr).add j) = some u) := hxB.out w1 (hg1 (wr.heap.size + 1) (wr.drew.alloc (.cells #[.int .i64 x] 3)) (Below.refl _ _) hsB.out (fun _ h => by cases h))
             replace hown1 := Lib.hid hown1
             clear hg1)
          | (refine step_append_sl rfl (.tmp 36) (.tmp 38) 29 rfl (wr.heap.size + 1) 3 i0 (.int .i64 0) 1 8 Tryz.underlying29 hi.out hz0.out hz1.out hz2.out rfl (by decide) v1 (0 + 0) ([] ++ ((l.take 0).map (Value.int .i64))) (by go_simp) hown1.out (some ⟨wr.heap.size, 0, none⟩) 1 1 [Value.int .i64 x] (by go_simp) (fun h => by cases h) rfl (fun ad h => by injection h with h; subst h; exact hx1.out) (news_int1 x) (by unfold maxLen; omega) (by omega) (show wr.heap.size + 1 ≤ w1.heap.size from World.block_lt_of_cell? _ _ (hx1.out 0 _ rfl)) ?_
             intro v2 w2 hown2 hg2
             have hb2 : Hid (Below wr.heap.size wr w2) := hg2 _ _ hb1.out hb1.out.size (fun k h => Nat.le_of_succ_le (own_block hown1.out k h))
             replace hown2 := Lib.hid hown2
             clear hg2)
          | (refine step_append_sl rfl (.tmp 36) (.tmp 38) 29 rfl wr.heap.size 3 i0 (.int .i64 0) 1 8 Tryz.underlying29 hi.out hz0.out hz1.out hz2.out rfl (by decide) v1 (0 + 0) ([] ++ ((l.take 0).map (Value.int .i64))) (by go_simp) hown1a.out (some ⟨w1.heap.size, 0, none⟩) 1 1 [Value.int .i64 x] (by go_simp) (fun h => by cases h) rfl (fun ad h => by injection h with h; subst h; exact hx1a.out) (news_int1 x) (by unfold maxLen; omega) (by omega) hb1a.out.size ?_
             intro v2 w2 hown2 hg2
             have hb2 : Hid (Below wr.heap.size wr w2) := hg2 _ _ hb1a.out hb1a.out.size (own_block hown1a.out)
             replace hown2 := Lib.hid hown2
             clear hg2)
          | (refine step_append_sl rfl (.tmp 39) (.tmp 42) 29 rfl _ 3 i0 (.int .i64 0) 1 8 Tryz.underlying29 hi.out hz0.out hz1.out hz2.out rfl (by decide) v2 (0 + 0 + 1) ([] ++ ((l.take 0).map (Value.int .i64)) ++ [Value.int .i64 x]) (by go_simp) hown2.out none 0 0 ((l.drop 0).map (Value.int .i64)) (by go_simp) (fun _ => ⟨rfl, rfl⟩) hlt2 (hrow2.out _ hb2.out) (ints_one _) (by unfold maxLen; omega) (by omega) (own_base hown2.out (by decide) (by omega)) ?_
             intro v3 w3 hown3 hg3
             have hb3 : Hid (Below wr.heap.size wr w3) := hg3 _ _ hb2.out hb2.out.size (fun k h => by have := own_block hown2.out k h; omega)
             replace hown3 := Lib.hid hown3
             clear hg3))
        all_goals
          have h9 := hown3.out
          have e9 : [] ++ (l.take 0).map (Value.int .i64) ++ [.int .i64 x] ++ (l.drop 0).map (Value.int .i64) = r.map (Value.int .i64) := by rw [e.out]; simp
          have n9 : 0 + 0 + 1 + 0 = r.length := by rw [e.out]; have := hL.out; simp; omega
          rw [e9, n9] at h9
          obtain ⟨A5, c5, e5, h5, -⟩ := nms_own h9
          subst e5
          have hok5 := own_ok h9
          clear hown3 h9
          go_wp2_with fail
          all_goals
            go_ret
            exact ⟨⟨A5, c5, rfl, h5, hok5⟩, hb3.out⟩
      · obtain ⟨b, off, rfl, hb, hc⟩ := hP hl0
        have hkc0 : 0 < k := by rw [← hL.out]; exact List.length_pos_iff.2 hl0
        have hkc : k ≤ c := by omega
        have hkc2 : (k : Int) ≤ (c : Int) := by omega
        have hrow1 : Hid (∀ W, Below wr.heap.size wr W → ∀ ad : Addr, some (⟨b, off, none⟩ : Addr) = some ad → ∀ j u, ((l.take k).map (Value.int .i64))[j]? = some u → W.cell? (ad.add j) = some u) := fun W hW ad had => by
          injection had with had
          subst had
          exact irow_news (k := 0) (hc.block (hW.block b hb)) (take_at l k)
        have hrow2 : Hid (∀ W, Below wr.heap.size wr W → ∀ ad : Addr, (if c = k then some (⟨b, off, none⟩ : Addr) else some ⟨b, off + k, none⟩) = some ad → ∀ j u, ([] : List Value)[j]? = some u → W.cell? (ad.add j) = some u) := fun W hW ad had j u hj => by simp at hj
        have hlt1 : ((l.take k).map (Value.int .i64)).length = k * 1 := by rw [List.length_map, List.length_take, hL.out, Nat.mul_one]; omega
        have hlt2 : ([] : List Value).length = 0 * 1 := rfl
        have hbA : Hid (Below wr.heap.size wr wr.drew) := (Below.refl _ _).drew
        have hbB : Hid (Below wr.heap.size wr (wr.drew.alloc (.cells #[.int .i64 x] 3))) := (Below.refl wr.heap.size wr).drew.alloc (Nat.le_refl _) _
        have hsB : Hid (wr.heap.size + 1 ≤ (wr.drew.alloc (.cells #[.int .i64 x] 3)).heap.size) := by show _ ≤ _; rw [World.size_alloc]; exact Nat.le_refl _
        have hxB : Hid (∀ W, Below (wr.heap.size + 1) (wr.drew.alloc (.cells #[.int .i64 x] 3)) W → ∀ j u, [Value.int .i64 x][j]? = some u → W.cell? ((⟨wr.heap.size, 0, none⟩ : Addr).add j) = some u) := fun W hW j u hj => (hW.cell (p := (⟨wr.heap.size, 0, none⟩ : Addr).add j) (by rw [Addr.add_lit]; show wr.heap.size < wr.heap.size + 1; omega)).trans (news_int wr.drew x _ j u hj)
        go_wp2_with fail
        go_region_law (first
          | (refine step_append_sl rfl (.const (.slice none 0 0)) (.tmp 35) 29 rfl wr.heap.size 3 i0 (.int .i64 0) 1 8 Tryz.underlying29 hi.out hz0.out hz1.out hz2.out rfl (by decide) (.slice none 0 0) 0 [] (by go_simp) (World.ownsRow_nil _ _ _ _) (some ⟨b, off, none⟩) k c ((l.take k).map (Value.int .i64)) (by go_simp) (fun h => by cases h) hlt1 (hrow1.out _ hbA.out) (ints_one _) (by unfold maxLen; omega) (by omega) hbA.out.size ?_
             intro v1 w1 hown1 hg1
             have hb1 : Hid (Below wr.heap.size wr w1) := hg1 _ _ hbA.out hbA.out.size (fun _ h => by cases h)
             replace hown1 := Lib.hid hown1
             have hown1a := Lib.hid (own_later hown1.out (later_alloc w1 (.cells #[.int .i64 x] 3)))
             have hb1a : Hid (Below wr.heap.size wr (w1.alloc (.cells #[.int .i64 x] 3))) := hb1.out.alloc hb1.out.size _
             have hx1a : Hid (∀ j u, [Value.int .i64 x][j]? = some u → (w1.alloc (.cells #[.int .i64 x] 3)).cell? ((⟨w1.heap.size, 0, none⟩ : Addr).add j) = some u) := news_int w1 x _
             clear hg1)
          | (refine step_append_sl rfl (.const (.slice none 0 0)) (.tmp 35) 29 rfl (wr.heap.size + 1) 3 i0 (.int .i64 0) 1 8 Tryz.underlying29 hi.out hz0.out hz1.out hz2.out rfl (by decide) (.slice none 0 0) 0 [] (by go_simp) (World.ownsRow_nil _ _ _ _) (some ⟨b, off, none⟩) k c ((l.take k).map (Value.int .i64)) (by go_simp) (fun h => by cases h) hlt1 (hrow1.out _ hbB.out) (ints_one _) (by unfold maxLen; omega) (by omega) hsB.out ?_
             intro v1 w1 hown1 hg1
             have hb1 : Hid (Below wr.heap.size wr w1) := hg1 _ _ hbB.out hbB.out.size (fun _ h => by cases h)
             have hx1 : Hid (∀ j u, [Value.int .i64 x][j]? = some u → w1.cell? ((⟨wr.heap.size, 0, none⟩ : Addr).add j) = some u) := hxB.out w1 (hg1 (wr.heap.size + 1) (wr.drew.alloc (.cells #[.int .i64 x] 3)) (Below.refl _ _) hsB.out (fun _ h => by cases h))
             replace hown1 := Lib.hid hown1
             clear hg1)
          | (refine step_append_sl rfl (.tmp 36) (.tmp 38) 29 rfl (wr.heap.size + 1) 3 i0 (.int .i64 0) 1 8 Tryz.underlying29 hi.out hz0.out hz1.out hz2.out rfl (by decide) v1 (0 + k) ([] ++ ((l.take k).map (Value.int .i64))) (by go_simp) hown1.out (some ⟨wr.heap.size, 0, none⟩) 1 1 [Value.int .i64 x] (by go_simp) (fun h => by cases h) rfl (fun ad h => by injection h with h; subst h; exact hx1.out) (news_int1 x) (by unfold maxLen; omega) (by omega) (show wr.heap.size + 1 ≤ w1.heap.size from World.block_lt_of_cell? _ _ (hx1.out 0 _ rfl)) ?_
             intro v2 w2 hown2 hg2
             have hb2 : Hid (Below wr.heap.size wr w2) := hg2 _ _ hb1.out hb1.out.size (fun k h => Nat.le_of_succ_le (own_block hown1.out k h))
             replace hown2 := Lib.hid hown2
             clear hg2)
          | (refine step_append_sl rfl (.tmp 36) (.tmp 38) 29 rfl wr.heap.size 3 i0 (.int .i64 0) 1 8 Tryz.underlying29 hi.out hz0.out hz1.out hz2.out rfl (by decide) v1 (0 + k) ([] ++ ((l.take k).map (Value.int .i64))) (by go_simp) hown1a.out (some ⟨w1.heap.size, 0, none⟩) 1 1 [Value.int .i64 x] (by go_simp) (fun h => by cases h) rfl (fun ad h => by injection h with h; subst h; exact hx1a.out) (news_int1 x) (by unfold maxLen; omega) (by omega) hb1a.out.size ?_
             intro v2 w2 hown2 hg2
             have hb2 : Hid (Below wr.heap.size wr w2) := hg2 _ _ hb1a.out hb1a.out.size (own_block hown1a.out)
             replace hown2 := Lib.hid hown2
             clear hg2)
          | (refine step_append_sl rfl (.tmp 39) (.tmp 42) 29 rfl _ 3 i0 (.int .i64 0) 1 8 Tryz.underlying29 hi.out hz0.out hz1.out hz2.out rfl (by decide) v2 (0 + k + 1) ([] ++ ((l.take k).map (Value.int .i64)) ++ [Value.int .i64 x]) (by go_simp) hown2.out (if c = k then some ⟨b, off, none⟩ else some ⟨b, off + k, none⟩) 0 (c - k) ([] : List Value) (by go_simp) (fun h => by split at h <;> cases h) hlt2 (hrow2.out _ hb2.out) (fun u h => by cases h) (by unfold maxLen; omega) (by omega) (own_base hown2.out (by decide) (by omega)) ?_
             intro v3 w3 hown3 hg3
             have hb3 : Hid (Below wr.heap.size wr w3) := hg3 _ _ hb2.out hb2.out.size (fun k h => by have := own_block hown2.out k h; omega)
             replace hown3 := Lib.hid hown3
             clear hg3))
        all_goals
          have h9 := hown3.out
          have e9 : [] ++ (l.take k).map (Value.int .i64) ++ [.int .i64 x] ++ ([] : List Value) = r.map (Value.int .i64) := by rw [e.out, List.drop_eq_nil_of_le (by rw [hL.out]; exact Nat.le_refl _)]; simp
          have n9 : 0 + k + 1 + 0 = r.length := by rw [e.out]; have := hL.out; simp; omega
          rw [e9, n9] at h9
          obtain ⟨A5, c5, e5, h5, -⟩ := nms_own h9
          subst e5
          have hok5 := own_ok h9
          clear hown3 h9
          go_wp2_with fail
          all_goals
            go_ret
            exact ⟨⟨A5, c5, rfl, h5, hok5⟩, hb3.out⟩
end Go.Proofs.YtkagmkejndjepaaGreatDoor
