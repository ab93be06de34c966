/-
  LexJoins's walk: true of whatever two texts. Condition: the variables that are read lie as laid.
-/
import Derived.Test.YtkmafbcgdhhenabDoorLxSame
namespace Go.Proofs.YtkmafbcgdhhenabDoor
open Go.RowKit Go.Lx
attribute [local go_sem ↓] Go.wp_at_zero Go.wp_at_succ

theorem cellsOf_app (l m : List Tok) : cellsOf (l ++ m) = cellsOf l ++ cellsOf m := by
  unfold cellsOf; rw [List.flatMap_append]
theorem cellsOf_one (l : List Tok) : ∀ u ∈ cellsOf l, u.oneCell' = true := fun u hu => by
  unfold cellsOf at hu
  obtain ⟨t, _, h⟩ := List.mem_flatMap.1 hu
  simp at h
  rcases h with rfl | rfl | rfl <;> rfl
theorem cells_at {W : World} {b off : Nat} {l : List Tok} (h : ∀ j, j < l.length → W.cell? ⟨b, off + j * 3, none⟩ = some (.int .i64 (l.getD j ⟨0, [], 0⟩).kind) ∧ W.cell? ⟨b, off + j * 3 + 1, none⟩ = some (.string (strOf (l.getD j ⟨0, [], 0⟩).text)) ∧ W.cell? ⟨b, off + j * 3 + 2, none⟩ = some (.int .i64 (l.getD j ⟨0, [], 0⟩).num)) (i : Nat) (u : Value) (hu : (cellsOf l)[i]? = some u) :
    W.cell? ((⟨b, off, none⟩ : Addr).add i) = some u := by
  have hi : i < l.length * 3 := by
    have := (List.getElem?_eq_some_iff.1 hu).1
    rwa [cellsOf_length] at this
  have ea : (⟨b, off, none⟩ : Addr).add i = ⟨b, off + i, none⟩ := by
    unfold Addr.add
    split
    · rename_i h0; subst h0; rfl
    · rfl
  rw [ea]
  obtain ⟨c0, c1, c2⟩ := cellsOf_get l (i / 3) (by omega)
  obtain ⟨d0, d1, d2⟩ := h (i / 3) (by omega)
  have e := Nat.div_add_mod i 3
  have hm := Nat.mod_lt i (y := 3) (by omega)
  obtain h3 | h3 | h3 : i % 3 = 0 ∨ i % 3 = 1 ∨ i % 3 = 2 := by omega
  · rw [show i = i / 3 * 3 from by omega] at hu ⊢
    rw [c0] at hu; cases hu; exact d0
  · rw [show i = i / 3 * 3 + 1 from by omega] at hu ⊢
    rw [c1] at hu; cases hu; exact d1
  · rw [show i = i / 3 * 3 + 2 from by omega] at hu ⊢
    rw [c2] at hu; cases hu; exact d2
/-- one append of tokens behind tokens, as the walk meets it -/
noncomputable def appRun (v x : Value) (w : World) := (Builtin.append_ #[22, 22] 22 #[v, x]).run Tryd.prog w
theorem wpList_app {ops : Array Oper} {rest : List Oper} {o : Oper} {a : Act} {Q : Exit → Act → World → Prop} {w : World} (hw : Region.wanted o (yielded ops a.tmps) = true) (s x : Operand)
    (ho : o.op = .call { callee := .builtin .append, args := #[s, x], argTypes := #[22, 22] }) (hty : o.type = 22) (v y v' : Value) (w' : World) (hs : a.eval s = v) (hx : a.eval x = y) (hr : appRun v y w = .ok v' w')
    (h : wpList Tryd.prog ops Q rest (a.put o.dst v') w') : wpList Tryd.prog ops Q (o :: rest) a w :=
  wpList_step fun K hK => by
    rw [if_pos hw]
    unfold appRun at hr
    unfold Oper.wp execOp
    simp only [ho, hty, resolve, invoke, builtin, Sem.run_bind, Sem.run_pure, Result.andThen_ok, List.map_toArray, List.map_cons, List.map_nil, hs, hx, hr]
    exact hK _ _ h
/-- tokens put behind tokens -/
theorem app_step {W : World} {base : Nat} {v : Value} {l m : List Tok} {A : Option Addr} {c : Nat} (hown : W.ownsRow base 41 3 v l.length (cellsOf l)) (hT : Toks W W.heap.size A m) (hc : A = none → c = 0) (hbase : base ≤ W.heap.size) (hlen : l.length + m.length ≤ 1099511627776) :
    ∃ v' W', appRun v (.slice A m.length c) W = .ok v' W' ∧ W'.ownsRow base 41 3 v' (l ++ m).length (cellsOf (l ++ m)) ∧ Below base W W' := by
  obtain ⟨i0, hi, hi2⟩ := Option.map_eq_some_iff.1 info_tok
  obtain ⟨hz0, hz1, hz2⟩ : i0.zero = some (.agg #[.int .i64 0, .string ⟨#[]⟩, .int .i64 0]) ∧ i0.size = 3 ∧ i0.bytes = 32 := by
    injection hi2 with h1 h2; injection h2 with h2 h3; exact ⟨h1, h2, h3⟩
  cases A with
  | none =>
    obtain rfl := hc rfl
    have hm : m = [] := by
      cases m with
      | nil => rfl
      | cons t m => obtain ⟨b, off, h, _⟩ := hT (by simp); cases h
    subst hm
    refine ⟨v, W, run_append_owned_none (P := Tryd.prog) W base 22 22 41 i0 3 Tryd.underlying22 hi v l.length (cellsOf l) hown, ?_, Below.refl _ _⟩
    rw [List.append_nil]; exact hown
  | some a =>
    obtain ⟨v', W', h1, h2, h3, _⟩ := run_append_own (P := Tryd.prog) W base 22 22 41 i0 (.agg #[.int .i64 0, .string ⟨#[]⟩, .int .i64 0]) 3 32 Tryd.underlying22 hi hz0 hz1 hz2 rfl (by decide) v l.length (cellsOf l) hown a m.length c (cellsOf m) (cellsOf_length m) (fun j u hu => by
      by_cases hm : m = []
      · subst hm; simp [cellsOf] at hu
      · obtain ⟨b, off, h, _, hcc⟩ := hT hm
        cases h
        exact cells_at hcc j u hu) (cellsOf_one m) (by unfold maxLen; omega) (by omega) hbase
    exact ⟨v', W', h1, by rw [List.length_append, cellsOf_app]; exact h2, (Below.refl _ _).grown h3 hbase (own_block hown)⟩

theorem joined (S T : ByteArray) : (S ++ ⟨#[10]⟩ ++ T).data.toList = S.data.toList ++ 10 :: T.data.toList := by
  simp [ByteArray.data_append]
theorem joined_lex (S T : ByteArray) : lexL (S ++ ⟨#[10]⟩ ++ T).data.toList = (lexL S.data.toList).bind fun x => (lexL T.data.toList).map (x ++ ·) := by
  rw [joined]; exact lexL_joins _ _ _ (Nat.le_refl _)
theorem joined_size (S T : ByteArray) (h1 : S.size ≤ 30000) (h2 : T.size ≤ 30000) : (S ++ ⟨#[10]⟩ ++ T).size ≤ 65536 := by
  have h := congrArg List.length (joined S T)
  rw [size_data, List.length_append, List.length_cons, size_data, size_data] at h
  omega
theorem lexL_len : ∀ (n : Nat) (s : List UInt8), s.length ≤ n → ∀ l, lexL s = some l → l.length ≤ s.length
  | _, [], _, l, h => by rw [lexL_nil] at h; cases h; exact Nat.le_refl _
  | 0, _ :: _, hn, _, _ => by simp at hn
  | n + 1, c :: r, hn, l, h => by
    have hp := headRun_pos (s := c :: r) (by simp)
    have hd : ((c :: r).drop (headRun (c :: r)).2).length = (c :: r).length - (headRun (c :: r)).2 := List.length_drop
    rw [lexL_step (by simp)] at h
    split at h
    · have := lexL_len n _ (by omega) l h
      omega
    · split at h
      · cases h
      · cases hl : lexL ((c :: r).drop (headRun (c :: r)).2) with
        | none => rw [hl] at h; cases h
        | some l' =>
          rw [hl] at h
          cases h
          have := lexL_len n _ (by omega) l' hl
          rw [List.length_cons]
          omega

set_option maxRecDepth 100000 in
set_option maxHeartbeats 2000000 in
theorem lexJoins_any (s t : ByteArray) (w : World) (hE : Env w) (hs : s.size ≤ 140737488355328) (ht : t.size ≤ 140737488355328) :
    Calls Tryd.prog 7 #[.string s, .string t] w fun e w' => e = .returned (.bool true) ∧ Below w.heap.size w w' := by
  have hX := Lib.hid (Now.new hE)
  clear hE
  go_enter Tryd.func7, Tryd.ntmps7
  go_wp2_with fail
  refine (examples_any _ hX.out.env).mono ?_
  rintro e w1 ⟨rfl, hb⟩
  replace hX := Lib.hid (hX.out.later hb)
  clear hb
  go_wp2_with fail
  have hS : (s.extract 0 (min (s.size : Int) 30000).toNat).size ≤ 30000 := by rw [ByteArray.size_extract]; omega
  have hT : (t.extract 0 (min (t.size : Int) 30000).toNat).size ≤ 30000 := by rw [ByteArray.size_extract]; omega
  generalize s.extract 0 (min (s.size : Int) 30000).toNat = S at hS ⊢
  generalize t.extract 0 (min (t.size : Int) 30000).toNat = T at hT ⊢
  have hU := Lib.hid (joined_size S T hS hT)
  have hJ := joined_lex S T
  have n1 := lexL_len _ S.data.toList (Nat.le_refl _)
  have n2 := lexL_len _ T.data.toList (Nat.le_refl _)
  rw [size_data] at n1 n2
  cases h1 : lexL S.data.toList with
  | none =>
    rw [h1] at hJ
    replace hJ := Lib.hid (show lexL (S ++ ⟨#[10]⟩ ++ T).data.toList = none from hJ)
    refine (lex_none hX.out.env (by omega) h1).mono ?_
    rintro e w2 ⟨rfl, hb⟩
    replace hX := Lib.hid (hX.out.later hb)
    clear hb n1 n2 h1
    go_wp2_with fail
    cases h2 : lexL T.data.toList with
    | none =>
      refine (lex_none hX.out.env (by omega) h2).mono ?_
      rintro e w3 ⟨rfl, hb⟩
      replace hX := Lib.hid (hX.out.later hb)
      clear hb h2
      go_wp2_with fail
      refine (lex_none hX.out.env hU.out hJ.out).mono ?_
      rintro e w4 ⟨rfl, hb⟩
      replace hX := Lib.hid (hX.out.later hb)
      clear hb
      go_wp2_with fail
      go_ret
      exact ⟨rfl, hX.out.below⟩
    | some lb =>
      refine (lex_some hX.out.env (by omega) h2).mono ?_
      rintro e w3 ⟨B, cb, rfl, hb, _⟩
      replace hX := Lib.hid (hX.out.later hb)
      clear hb h2
      go_wp2_with fail
      refine (lex_none hX.out.env hU.out hJ.out).mono ?_
      rintro e w4 ⟨rfl, hb⟩
      replace hX := Lib.hid (hX.out.later hb)
      clear hb
      go_wp2_with fail
      go_ret
      exact ⟨rfl, hX.out.below⟩
  | some la =>
    rw [h1] at hJ
    refine (lex_some hX.out.env (by omega) h1).mono ?_
    rintro e w2 ⟨A, ca, rfl, hb, tA, a1, a2, a3⟩
    replace hX := Lib.hid (hX.out.later hb)
    have m1 := n1 la h1
    replace tA := Lib.hid tA
    replace a3 := Lib.hid a3
    clear hb h1 n1
    go_wp2_with fail
    cases h2 : lexL T.data.toList with
    | none =>
      rw [h2] at hJ
      replace hJ := Lib.hid (show lexL (S ++ ⟨#[10]⟩ ++ T).data.toList = none from hJ)
      refine (lex_none hX.out.env (by omega) h2).mono ?_
      rintro e w3 ⟨rfl, hb⟩
      replace hX := Lib.hid (hX.out.later hb)
      clear hb h2 n2
      go_wp2_with fail
      refine (lex_none hX.out.env hU.out hJ.out).mono ?_
      rintro e w4 ⟨rfl, hb⟩
      replace hX := Lib.hid (hX.out.later hb)
      clear hb
      go_wp2_with fail
      go_ret
      exact ⟨rfl, hX.out.below⟩
    | some lb =>
      rw [h2] at hJ
      replace hJ := Lib.hid (show lexL (S ++ ⟨#[10]⟩ ++ T).data.toList = some (la ++ lb) from hJ)
      refine (lex_some hX.out.env (by omega) h2).mono ?_
      rintro e w3 ⟨B, cb, rfl, hb, tB, b1, b2, b3⟩
      replace hX := Lib.hid (hX.out.later hb)
      replace tA := Lib.hid (tA.out.later hb)
      replace tB := Lib.hid tB
      replace b3 := Lib.hid b3
      have m2 := n2 lb h2
      clear hb h2 n2
      go_wp2_with fail
      refine (lex_some hX.out.env hU.out hJ.out).mono ?_
      rintro e w4 ⟨C, cc, rfl, hb, tC, e1, e2, _⟩
      replace hX := Lib.hid (hX.out.later hb)
      replace tA := Lib.hid (tA.out.later hb)
      replace tB := Lib.hid (tB.out.later hb)
      obtain ⟨v1, W1, r1, o1, g1⟩ := app_step (l := []) (W := w4) (base := w4.heap.size) (World.ownsRow_nil _ _ _ _) tA.out a3.out (Nat.le_refl _) (by simp; omega)
      obtain ⟨v2, W2, r2, o2, g2⟩ := app_step o1 (tB.out.later g1) b3.out g1.size (by simp; omega)
      rw [List.nil_append] at o2
      have gg := g1.trans g2
      obtain ⟨D, cd, rfl, tD, _, _⟩ := toks_of o2
      have hlab : (la ++ lb).length ≤ 9223372036854775807 := by rw [List.length_append]; omega
      have ks := same_any C D (la ++ lb) cc cd W2 (tC.later gg) tD hlab
      replace hX := Lib.hid (hX.out.later gg)
      replace ks := Lib.hid ks
      replace r1 := Lib.hid r1
      replace r2 := Lib.hid r2
      clear hb tA tB tC tD o1 o2 g1 g2 gg hJ
      generalize la ++ lb = lab at ks r2 e1 hlab ⊢
      go_wp2_with (at_builtin; first | refine wpList_app (by rfl) _ _ rfl rfl _ _ _ _ rfl rfl r1.out ?_ | refine wpList_app (by rfl) _ _ rfl rfl _ _ _ _ rfl rfl r2.out ?_)
      refine ks.out.mono ?_
      rintro e w5 ⟨rfl, hb⟩
      replace hX := Lib.hid (hX.out.later hb)
      clear hb
      go_wp2_with fail
      go_ret
      exact ⟨rfl, hX.out.below⟩
end Go.Proofs.YtkmafbcgdhhenabDoor
