/-
  The walk of lex.Lex: all tokens of a text, or an error. Condition: the variables that are read lie as laid.
-/
import Derived.Test.YthidblhkajahdaaDoorLxW5
import Derived.Lib.IndexBytes
namespace Go.Proofs.YthidblhkajahdaaDoor.X
open Go.RowKit Go.Lx

/-- the tokens' cells, one behind another -/
def cellsOf (l : List Tok) : List Value := l.flatMap fun t => [.int .i64 t.kind, .string (strOf t.text), .int .i64 t.num]
theorem cellsOf_snoc (l : List Tok) (t : Tok) : cellsOf (l ++ [t]) = cellsOf l ++ [.int .i64 t.kind, .string (strOf t.text), .int .i64 t.num] := by
  unfold cellsOf; rw [List.flatMap_append]; rfl
theorem cellsOf_length (l : List Tok) : (cellsOf l).length = l.length * 3 := by
  unfold cellsOf
  induction l with
  | nil => rfl
  | cons t l ih => rw [List.flatMap_cons, List.length_append, ih]; simp; omega
theorem cellsOf_get : ∀ (l : List Tok) (j : Nat), j < l.length → (cellsOf l)[j * 3]? = some (.int .i64 (l.getD j ⟨0, [], 0⟩).kind) ∧ (cellsOf l)[j * 3 + 1]? = some (.string (strOf (l.getD j ⟨0, [], 0⟩).text)) ∧ (cellsOf l)[j * 3 + 2]? = some (.int .i64 (l.getD j ⟨0, [], 0⟩).num)
  | [], _, h => by simp at h
  | t :: l, 0, _ => ⟨rfl, rfl, rfl⟩
  | t :: l, j + 1, h => by
    have ih := cellsOf_get l j (by simp at h; omega)
    have e : cellsOf (t :: l) = .int .i64 t.kind :: .string (strOf t.text) :: .int .i64 t.num :: cellsOf l := rfl
    rw [e, List.getD_cons_succ, show (j + 1) * 3 = j * 3 + 1 + 1 + 1 from by omega]
    exact ih
/-- what was gathered, as a slice of tokens -/
theorem toks_of {W : World} {base : Nat} {v : Value} {l : List Tok} (h : W.ownsRow base 50 3 v l.length (cellsOf l)) :
    ∃ A c, v = .slice A l.length c ∧ Toks W W.heap.size A l ∧ l.length ≤ c ∧ c ≤ 9223372036854775807 ∧ (A = none → c = 0) := by
  obtain ⟨_, h1 | ⟨g, cap, cur, rfl, _, hg, h2, h3, h4, h5⟩⟩ := h
  · obtain ⟨rfl, h0⟩ := h1
    rw [h0]
    exact ⟨none, 0, rfl, by rw [List.length_eq_zero_iff.1 h0]; exact Toks.nil _ _ _, Nat.le_refl _, by decide, fun _ => rfl⟩
  · refine ⟨some ⟨g, 0, none⟩, cap, rfl, fun _ => ⟨g, 0, rfl, (Array.getElem?_eq_some_iff.1 hg).1, fun j hj => ?_⟩, h2, h3, fun h => by cases h⟩
    have key : ∀ i u, (cellsOf l)[i]? = some u → W.cell? ⟨g, i, none⟩ = some u := fun i u hu => by
      have hi : i < l.length * 3 := by
        have := (List.getElem?_eq_some_iff.1 hu).1
        rwa [cellsOf_length] at this
      have e : cur[i]? = some u := by
        rw [← h5, List.getElem?_take_of_lt hi, Array.getElem?_toList] at hu
        exact hu
      rw [cell_of_row W g i cur _ _ hg]
      exact e
    obtain ⟨c0, c1, c2⟩ := cellsOf_get l j hj
    rw [Nat.zero_add]
    exact ⟨key _ _ c0, key _ _ c1, key _ _ c2⟩
theorem own_later {W W' : World} {base size n : Nat} {e : TypeId} {v : Value} {xs : List Value} (h : W.ownsRow base e size v n xs) (hb : Below W.heap.size W W') : W'.ownsRow base e size v n xs := by
  obtain ⟨h1, h2 | ⟨g, cap, cur, hv, hbg, hg, r⟩⟩ := h
  · exact ⟨h1, .inl h2⟩
  · exact ⟨h1, .inr ⟨g, cap, cur, hv, hbg, (hb.block g (Array.getElem?_eq_some_iff.1 hg).1).trans hg, r⟩⟩
theorem own_block {W : World} {base size n : Nat} {e : TypeId} {v : Value} {xs : List Value} (h : W.ownsRow base e size v n xs) (k : Nat) (hk : v.ownBlock = some k) : base ≤ k := by
  obtain ⟨_, ⟨rfl, _⟩ | ⟨g, cap, cur, rfl, hbg, _⟩⟩ := h
  · cases hk
  · cases hk; exact hbg
def strSz : Value → Nat
  | .string s => s.size
  | _ => 0
theorem info_tok : (Tryd.prog.info? 50).map (fun i => (i.zero, i.size, i.bytes)) = some (some (.agg #[.int .i64 0, .string ⟨#[]⟩, .int .i64 0]), 3, 32) := by kernel_rfl

/-- what Lex answers -/
def LexPost (s : ByteArray) (w : World) (e : Ending) (w' : World) : Prop := Below w.heap.size w w' ∧
  ((65536 < s.size ∧ e = .returned (.tuple #[.slice none 0 0, .int .i64 1])) ∨
   (s.size ≤ 65536 ∧ lexL s.data.toList = none ∧ e = .returned (.tuple #[.slice none 0 0, .int .i64 2])) ∨
   (s.size ≤ 65536 ∧ ∃ l A c, lexL s.data.toList = some l ∧ e = .returned (.tuple #[.slice A l.length c, .int .i64 0]) ∧ Toks w' w'.heap.size A l ∧ l.length ≤ c ∧ c ≤ 9223372036854775807 ∧ (A = none → c = 0)))

theorem lex_go {R : List UInt8} {l : List Tok} {S : List UInt8} {n : Nat} (h : lexL S = (lexL R).map (l ++ ·)) (hs : lexL R = lexL (R.drop n)) : lexL S = (lexL (R.drop n)).map (l ++ ·) := by rw [h, hs]
theorem lex_tok {R : List UInt8} {l : List Tok} {S : List UInt8} {n : Nat} {t : Tok} (h : lexL S = (lexL R).map (l ++ ·)) (hs : lexL R = (lexL (R.drop n)).map (t :: ·)) : lexL S = (lexL (R.drop n)).map ((l ++ [t]) ++ ·) := by
  rw [h, hs]
  cases lexL (R.drop n) <;> simp
theorem lex_bad {R : List UInt8} {l : List Tok} {S : List UInt8} (h : lexL S = (lexL R).map (l ++ ·)) (hs : lexL R = none) : lexL S = none := by rw [h, hs]; rfl

set_option maxRecDepth 100000 in
set_option maxHeartbeats 2000000 in
theorem lex_any (s : ByteArray) (w : World) (hE : Env w) (hm : s.size ≤ 9223372036854775807) :
    Calls Tryd.prog 26 #[.string s] w (LexPost s w) := by
  have hEh := Lib.hid hE
  clear hE
  by_cases hbig : 65536 < s.size
  · go_enter Tryd.func26, Tryd.ntmps26
    go_wp2_with fail
    go_ret2
    exact ⟨Below.refl _ _, .inl ⟨hbig, rfl⟩⟩
  obtain ⟨i0, hi, hi2⟩ := Option.map_eq_some_iff.1 info_tok
  obtain ⟨hz0, hz1, hz2⟩ : i0.zero = some (.agg #[.int .i64 0, .string ⟨#[]⟩, .int .i64 0]) ∧ i0.size = 3 ∧ i0.bytes = 32 := by
    injection hi2 with h1 h2; injection h2 with h2 h3; exact ⟨h1, h2, h3⟩
  replace hi := Lib.hid hi
  replace hz0 := Lib.hid hz0
  replace hz1 := Lib.hid hz1
  replace hz2 := Lib.hid hz2
  clear hi2
  go_enter Tryd.func26, Tryd.ntmps26
  go_wp2_with fail
  go_loopw [0, 4] (fun u v wr => ∃ (r : ByteArray) (l : List Tok) (v' : Value), u = .string r ∧ v = v' ∧ Hid (wr.ownsRow w.heap.size 50 3 v' l.length (cellsOf l)) ∧ Hid (lexL s.data.toList = (lexL r.data.toList).map (l ++ ·)) ∧ l.length + r.size ≤ s.size ∧ Hid (Below w.heap.size w wr)) (fun u _ _ => strSz u)
  case atStart => exact ⟨s, [], _, rfl, rfl, World.ownsRow_nil _ _ _ _, by show lexL s.data.toList = _; cases lexL s.data.toList <;> simp, by simp, Below.refl _ _⟩
  case round =>
    obtain ⟨r, l, v', rfl, rfl, hown, hlex, hsz, hB⟩ := hrel
    by_cases h0 : r.size = 0
    · have hq : r.toList.isEmpty = true := by
        rw [toList_data, List.length_eq_zero_iff.1 (show r.data.toList.length = 0 by rw [size_data]; exact h0)]; rfl
      have hfin : Hid (lexL s.data.toList = some l) := by
        show lexL s.data.toList = some l
        rw [hlex.out, List.length_eq_zero_iff.1 (show r.data.toList.length = 0 by rw [size_data]; exact h0)]
        simp [lexL_nil]
      obtain ⟨A, c, rfl, hT, hc1, hc2, hc3⟩ := toks_of hown.out
      replace hc3 := Lib.hid hc3
      replace hT := Lib.hid hT
      clear hown hlex h0
      go_wp2_with fail
      go_ret2
      exact ⟨hB.out, .inr (.inr ⟨by omega, l, A, c, hfin.out, rfl, hT.out, hc1, hc2, hc3.out⟩)⟩
    · have hne : r.data.toList ≠ [] := fun e => h0 (by rw [← size_data, e]; rfl)
      have hq : r.toList.isEmpty = false := by
        rw [toList_data]; exact List.isEmpty_eq_false_iff.2 hne
      have kb := begun_any r wr (by omega) (by omega)
      have hstep := lexL_step hne
      obtain ⟨p1, p2⟩ := headRun_pos hne
      rw [size_data] at p2
      generalize hhk : (headRun r.data.toList).1 = k at kb hstep
      generalize hhn : (headRun r.data.toList).2 = n at kb hstep p1 p2
      have kt := token_any k (r.extract 0 n) wr (hEh.out.later hB.out) (by rw [ByteArray.size_extract]; omega)
      have et : (r.extract 0 n).data.toList = r.data.toList.take n := by rw [Lib.extract_data]; simp
      rw [et] at kt
      have ed : (r.extract n r.size).data.toList = r.data.toList.drop n := Lib.extract_to_end r n
      have es : (r.extract n r.size).size = r.size - n := by rw [ByteArray.size_extract]; omega
      replace kb := Lib.hid kb
      replace ed := Lib.hid ed
      replace es := Lib.hid es
      clear hne hhk hhn et
      by_cases hk0 : k = 0
      · subst hk0
        have hl2 : Hid (lexL s.data.toList = (lexL (r.extract n r.size).data.toList).map (l ++ ·)) := by
          show lexL s.data.toList = _
          rw [ed.out]
          exact lex_go hlex.out hstep
        clear kt hstep hlex
        go_wp2_with fail
        refine kb.out.mono ?_
        rintro e w' ⟨rfl, rfl⟩
        go_wp2_with fail
        go_roundw
        case rel => exact ⟨r.extract n r.size, l, _, rfl, rfl, hown, hl2, by rw [es.out]; omega, hB⟩
        case measure => simp only [strSz]; rw [es.out]; omega
      · rw [if_neg hk0] at hstep
        have hk1 : (k != 0) = true := by simpa using hk0
        cases ht : tokL k (r.data.toList.take n) with
        | none =>
          rw [ht] at kt hstep
          have hl2 := Lib.hid (lex_bad hlex.out hstep)
          replace kt := Lib.hid kt
          clear hstep hlex ht hk0
          go_wp2_with fail
          refine kb.out.mono ?_
          rintro e w' ⟨rfl, rfl⟩
          go_wp2_with fail
          refine kt.out.mono ?_
          rintro e W1 ⟨rfl, hb⟩
          rw [optV_none]
          have hb9 := Lib.hid (hB.out.trans (hb.mono hB.out.size))
          clear hb
          go_wp2_with fail
          go_ret2
          exact ⟨hb9.out.alloc hb9.out.size _, .inr (.inl ⟨by omega, hl2.out, rfl⟩)⟩
        | some t =>
          obtain ⟨tk, tt, tn⟩ := t
          rw [ht] at kt hstep
          have hl2 : Hid (lexL s.data.toList = (lexL (r.extract n r.size).data.toList).map ((l ++ [⟨tk, tt, tn⟩]) ++ ·)) := by
            show lexL s.data.toList = _
            rw [ed.out]
            exact lex_tok hlex.out hstep
          replace kt := Lib.hid kt
          clear hstep hlex ht hk0
          go_wp2_with fail
          refine kb.out.mono ?_
          rintro e w' ⟨rfl, rfl⟩
          go_wp2_with fail
          refine kt.out.mono ?_
          rintro e W1 ⟨rfl, hb⟩
          rw [optV_some]
          have hb2 : Below W1.heap.size W1 ((W1.alloc (.cells #[.int .i64 tk, .string (strOf tt), .int .i64 tn] 50)).alloc (.cells #[.int .i64 tk, .string (strOf tt), .int .i64 tn] 50)) := (later_alloc _ _).alloc (by simp) _
          have hown1 := Lib.hid (own_later (own_later hown.out hb) hb2)
          have hb9 : Hid (Below w.heap.size w ((W1.alloc (.cells #[.int .i64 tk, .string (strOf tt), .int .i64 tn] 50)).alloc (.cells #[.int .i64 tk, .string (strOf tt), .int .i64 tn] 50))) := (hB.out.trans (hb.mono hB.out.size)).trans (hb2.mono (Nat.le_trans hB.out.size hb.size))
          have hbx := Lib.hid (Box3.new (W1.alloc (.cells #[.int .i64 tk, .string (strOf tt), .int .i64 tn] 50)) (.int .i64 tk) (.string (strOf tt)) (.int .i64 tn))
          clear hb hb2 hown
          have hll : l.length + 1 ≤ 65537 := by omega
          go_wp2_with (at_builtin; refine wpList_append_own _ rfl _ _ 42 rfl w.heap.size 50 i0 (.agg #[.int .i64 0, .string ⟨#[]⟩, .int .i64 0]) 3 32 Tryd.underlying42 hi.out hz0.out hz1.out hz2.out rfl (by decide) _ _ _ rfl hown1.out ⟨W1.heap.size + 1, 0, none⟩ 1 1 [.int .i64 tk, .string (strOf tt), .int .i64 tn] rfl rfl ?c1 ?c2 ?c3 ?c4 ?c5 ?_)
          case c1 =>
            intro j u hj
            have e : (W1.alloc (.cells #[.int .i64 tk, .string (strOf tt), .int .i64 tn] 50)).heap.size = W1.heap.size + 1 := by simp
            have x0 := hbx.out.c0
            have x1 := hbx.out.c1
            have x2 := hbx.out.c2
            rw [e] at x0 x1 x2
            match j, hj with
            | 0, hj => cases hj; exact x0
            | 1, hj => cases hj; exact x1
            | 2, hj => cases hj; exact x2
            | j + 3, hj => simp at hj
          case c2 =>
            intro u hu
            simp at hu
            rcases hu with rfl | rfl | rfl <;> rfl
          case c3 => unfold maxLen; omega
          case c4 => omega
          case c5 => exact hb9.out.size
          · intro v'' w1 hown' hgrow _
            have hown2 : Hid (w1.ownsRow w.heap.size 50 3 v'' (l ++ [(⟨tk, tt, tn⟩ : Tok)]).length (cellsOf (l ++ [⟨tk, tt, tn⟩]))) := by
              show w1.ownsRow _ _ _ _ _ _
              rw [cellsOf_snoc, List.length_append]
              exact hown'
            have hb3 : Hid (Below w.heap.size w w1) := by
              exact hb9.out.grown hgrow hb9.out.size (own_block hown1.out)
            clear hown' hgrow
            go_wp2_with fail
            go_roundw
            case rel => exact ⟨r.extract n r.size, l ++ [⟨tk, tt, tn⟩], _, rfl, rfl, hown2, hl2, by rw [es.out, List.length_append]; simp; omega, hb3⟩
            case measure => simp only [strSz]; rw [es.out]; omega
end Go.Proofs.YthidblhkajahdaaDoor.X
