/-
  ParseToks's walk: true of whatever text and tokens. Conditions: the variables that are read lie as laid; what comes in can be read.
-/
import Derived.Test.YtpdombmpmhnolaaGreatDoorPaPr
namespace Go.Proofs.YtpdombmpmhnolaaGreatDoor.Pa
open Go.RowKit Go.Shelf Go.Tm Go.Lx Go.Maps
attribute [local go_sem] Oper.semAt_some

theorem size_cut (s : ByteArray) : (s.extract 0 (min (s.size : Int) 3000).toNat).size ≤ 3000 := by
  rw [ByteArray.size_extract]; omega
theorem Toks.take {w : World} {B : Nat} {A : Option Addr} {ts : List Tok} (h : X.Toks w B A ts) (k : Nat) : X.Toks w B A (ts.take k) := fun hn => by
  obtain ⟨b, off, hA, hlt, hc⟩ := h (fun e => hn (by rw [e]; simp))
  refine ⟨b, off, hA, hlt, fun j hj => ?_⟩
  rw [List.length_take] at hj
  have e : (ts.take k).getD j ⟨0, [], 0⟩ = ts.getD j ⟨0, [], 0⟩ := by
    rw [List.getD_eq_getElem?_getD, List.getD_eq_getElem?_getD, List.getElem?_take_of_lt (by omega)]
  rw [e]
  exact hc j (by omega)
theorem short_of {ts : List Tok} (h : Lib.lens (ts.map (·.text)) + 4 * ts.length ≤ 1048576) (k : Nat) : X.Short (ts.take k) := fun j => by
  have hb : ∀ (l : List Tok), ∀ x ∈ l, x.text.length ≤ Lib.lens (l.map (·.text)) := by
    intro l
    induction l with
    | nil => intro x hx; cases hx
    | cons y l ih =>
      intro x hx
      rw [List.map_cons]
      unfold Lib.lens
      rcases List.mem_cons.1 hx with rfl | hx
      · simp
      · have := ih x hx; unfold Lib.lens at this; simp at this ⊢; omega
  by_cases hj : j < (ts.take k).length
  · rw [List.getD_eq_getElem?_getD, List.getElem?_eq_getElem hj, Option.getD_some]
    have := hb ts _ (List.mem_of_mem_take (List.getElem_mem hj))
    omega
  · rw [List.getD_eq_getElem?_getD, List.getElem?_eq_none (by omega)]; show (0 : Nat) ≤ _; omega
theorem toksP_no {l : List Tok} {n : Nat} (h : Told l T0 n) (hn : n ≠ 0) (A : Option Addr) (c : Nat) (w : World) (hE : EnvP w) (hU : X.Toks w w.heap.size A l) (hsh : X.Short l) (hl : l.length ≤ 1000000000) :
    Calls Tryz.prog 12 #[.slice A l.length c] w fun e w' => e = .returned (.tuple #[.agg #[.int .i64 0, .string ⟨#[]⟩, .int .i64 0, .slice none 0 0], .int .i64 n]) ∧ Below w.heap.size w w' :=
  (toksP_any A l c w hE hU hsh hl).mono fun e w' ⟨hb, ho⟩ => by
    rcases ho with ⟨u, B, d, h1, h2, h3, h4⟩ | ⟨m, h1, h2, h3⟩
    · obtain ⟨_, e⟩ := told_one h h1
      exact absurd e hn
    · obtain ⟨_, rfl⟩ := told_one h h2
      exact ⟨h3, hb⟩
/-- any answer of Toks -/
theorem toksP_some {l : List Tok} {t : Go.Tm.T} {n : Nat} (h : Told l t n) (A : Option Addr) (c : Nat) (w : World) (hE : EnvP w) (hU : X.Toks w w.heap.size A l) (hsh : X.Short l) (hl : l.length ≤ 1000000000) :
    Calls Tryz.prog 12 #[.slice A l.length c] w fun e w' => ∃ B d, e = .returned (.tuple #[.agg #[.int .i64 t.kind, .string t.name, .int .i64 t.num, .slice B t.kids.length d], .int .i64 (n : Nat)]) ∧ Below w.heap.size w w' ∧ TmV w' (· < w'.heap.size) t B d := by
  rcases told_err h with ⟨rfl, hr⟩ | ⟨rfl, rfl⟩ | ⟨rfl, rfl⟩
  · exact (toksP_ok h A c w hE hU hsh hl).mono fun e w' ⟨B, d, h1, h2, h3, _⟩ => ⟨B, d, h1, h2, h3⟩
  · exact (toksP_no h (by decide) A c w hE hU hsh hl).mono fun e w' ⟨h1, h2⟩ => ⟨none, 0, h1, h2, T0_at _ _⟩
  · exact (toksP_no h (by decide) A c w hE hU hsh hl).mono fun e w' ⟨h1, h2⟩ => ⟨none, 0, h1, h2, T0_at _ _⟩
theorem told_size {l : List Tok} {t : Go.Tm.T} {n : Nat} (h : Told l t n) : t.size ≤ 10000 := by
  rcases told_err h with ⟨rfl, hr⟩ | ⟨rfl, rfl⟩ | ⟨rfl, rfl⟩
  · exact (rt_parts hr).2.1
  · decide
  · decide
/-- an answer of Parse, as of its tokens -/
theorem parse_some {s : ByteArray} {l : List Tok} {t : Go.Tm.T} {n : Nat} (h : Told l t n) (hs : s.size ≤ 65536) (hl : lexL s.data.toList = some l) (w : World) (hE : EnvP w) :
    Calls Tryz.prog 15 #[.string s] w fun e w' => ∃ B d, e = .returned (.tuple #[.agg #[.int .i64 t.kind, .string t.name, .int .i64 t.num, .slice B t.kids.length d], .int .i64 (n : Nat)]) ∧ Below w.heap.size w w' ∧ TmV w' (· < w'.heap.size) t B d := by
  have h9 : ToldS s t n := .inr (.inr ⟨l, hs, hl, h⟩)
  rcases told_err h with ⟨rfl, hr⟩ | ⟨rfl, rfl⟩ | ⟨rfl, rfl⟩
  · exact (parse_ok h9 w hE (by omega)).mono fun e w' ⟨B, d, h1, h2, h3, _⟩ => ⟨B, d, h1, h2, h3⟩
  · exact (parse_no h9 (by decide) w hE (by omega)).mono fun e w' ⟨h1, h2⟩ => ⟨none, 0, h1, h2, T0_at _ _⟩
  · exact (parse_no h9 (by decide) w hE (by omega)).mono fun e w' ⟨h1, h2⟩ => ⟨none, 0, h1, h2, T0_at _ _⟩
/-- the texts' tokens that came in stay -/
structure BT (w : World) (l : List TB) (A : Option Addr) (ts : List Tok) (W : World) : Prop where
  x : Bx w l W
  u : X.Toks W W.heap.size A ts

set_option maxRecDepth 100000 in
set_option maxHeartbeats 4000000 in
theorem parseToks_any (s : ByteArray) (A : Option Addr) (ts : List Tok) (c : Nat) (w : World) (hE : EnvP w) (hs : s.size ≤ 140737488355328) (hU : X.Toks w w.heap.size A ts) (hb : Lib.lens (ts.map (·.text)) + 4 * ts.length ≤ 1048576) (hc : ts.length ≤ c) :
    Calls Tryz.prog 10 #[.string s, .slice A ts.length c] w fun e w' => e = .returned (.bool true) ∧ Below w.heap.size w w' := by
  have hX := Lib.hid (Bx.new hE)
  have hsh := Lib.hid (short_of hb 1000)
  replace hU := Lib.hid (Toks.take hU 1000)
  have hl0 : ts.length ≤ 1048576 := by omega
  have htl : (ts.take 1000).length = (min (ts.length : Int) 1000).toNat := by rw [List.length_take]; omega
  have hl2 : (ts.take 1000).length ≤ 1000 := by rw [List.length_take]; omega
  obtain ⟨l2, hl9⟩ : ∃ l, ts.take 1000 = l := ⟨_, rfl⟩
  rw [hl9] at hsh hU htl hl2
  obtain ⟨L, hL⟩ : ∃ n, ts.length = n := ⟨_, rfl⟩
  rw [hL] at htl hl0 hc ⊢
  replace hL := Lib.hid hL
  replace hl9 := Lib.hid hl9
  clear hE hb
  have hLc : (min (L : Int) 1000).toNat ≤ c := by omega
  have hLi : (L : Int) ≤ 1048576 := by omega
  replace htl := Lib.hid htl
  replace hl2 := Lib.hid hl2
  have hcut := size_cut s
  obtain ⟨x, hx⟩ : ∃ x, s.extract 0 (min (s.size : Int) 3000).toNat = x := ⟨_, rfl⟩
  rw [hx] at hcut
  replace hx := Lib.hid hx
  replace hcut := Lib.hid hcut
  go_enter Tryz.func10, Tryz.ntmps10
  go_wp2_with fail
  refine (examplesP_any _ hX.out.env).mono ?_
  rintro e w1 ⟨rfl, hb⟩
  replace hX := Lib.hid (hX.out.later hb)
  replace hU := Lib.hid (hU.out.later hb)
  clear hb
  go_wp2_with fail
  rw [hx.out]
  have kl := X.lex_any x w1 hX.out.env.s.lx (by have := hcut.out; omega)
  obtain ⟨t2, n2, h2⟩ := told_some l2
  have hw2 : Go.Lx.rightL l2 = false → n2 = 2 := fun h => (told_one h2 (.wrong h)).2
  have k2 := Lib.hid (fun W hE hU => toksP_some h2 A c W hE hU hsh.out (by have := hl2.out; omega))
  rw [htl.out] at k2
  replace h2 := Lib.hid h2
  replace hw2 := Lib.hid hw2
  refine kl.mono ?_
  clear kl
  rintro e w2 ⟨hb, ho⟩
  replace hX := Lib.hid (hX.out.later hb)
  replace hU := Lib.hid (hU.out.later hb)
  clear hb
  rcases ho with ⟨h1, rfl⟩ | ⟨h1, hn, rfl⟩ | ⟨h1, l, B, d, hs1, rfl, hL2, hcd, hd9, _⟩
  · have := hcut.out
    omega
  · have ht : ToldS x T0 2 := .inr (.inl ⟨h1, hn, rfl, rfl⟩)
    have kp := Lib.hid (parse_no ht (by decide) w2 hX.out.env (by omega))
    replace ht := Lib.hid ht
    clear h1 hn
    go_wp2_with fail
    refine kp.out.mono ?_
    rintro e w3 ⟨rfl, hb⟩
    replace hX := Lib.hid (hX.out.later hb)
    replace hU := Lib.hid (hU.out.later hb)
    have hT := T0_at w3 (· < w3.heap.size)
    have hz1 := Lib.hid hX.out.below.size
    replace hX := Lib.hid (hX.out.add hT)
    obtain ⟨V1, hV1⟩ : ∃ W, w3.alloc (.cells #[.int .i64 0, .string ⟨#[]⟩, .int .i64 0, .slice none 0 0] 26) = W := ⟨_, rfl⟩
    replace hX : Hid (Bx w (⟨T0, none, 0, w3.heap.size⟩ :: []) V1) := by rw [← hV1]; exact hX
    replace hU := by have h9 := hU.out.later (X.later_alloc w3 (.cells #[.int .i64 0, .string ⟨#[]⟩, .int .i64 0, .slice none 0 0] 26)); rw [hV1] at h9; exact Lib.hid h9
    clear hb hT kp
    replace hV1 := Lib.hid hV1
    have kp : Calls Tryz.prog 12 #[.slice none 0 0] V1 _ := toksP_no ex4 (by decide) none 0 V1 hX.out.env (X.Toks.nil _ _ _) (fun j => by show (0 : Nat) ≤ _; omega) (by decide)
    replace kp := Lib.hid kp
    go_wp2_with fail
    rw [hV1.out]
    refine kp.out.mono ?_
    rintro e w4 ⟨rfl, hb⟩
    replace hX := Lib.hid (hX.out.later hb)
    replace hU := Lib.hid (hU.out.later hb)
    have hT := T0_at w4 (· < w4.heap.size)
    have hz2 := Lib.hid hX.out.below.size
    replace hX := Lib.hid (hX.out.add hT)
    obtain ⟨V2, hV2⟩ : ∃ W, w4.alloc (.cells #[.int .i64 0, .string ⟨#[]⟩, .int .i64 0, .slice none 0 0] 26) = W := ⟨_, rfl⟩
    replace hX : Hid (Bx w (⟨T0, none, 0, w4.heap.size⟩ :: (⟨T0, none, 0, w3.heap.size⟩ :: [])) V2) := by rw [← hV2]; exact hX
    replace hU := by have h9 := hU.out.later (X.later_alloc w4 (.cells #[.int .i64 0, .string ⟨#[]⟩, .int .i64 0, .slice none 0 0] 26)); rw [hV2] at h9; exact Lib.hid h9
    clear hb hT kp
    replace hV2 := Lib.hid hV2
    replace k2 := Lib.hid (k2.out V2 hX.out.env hU.out)
    go_wp2_with fail
    rw [hV2.out]
    refine k2.out.mono ?_
    rintro e w5 ⟨D, q, rfl, hb, hT⟩
    replace hX := Lib.hid (hX.out.later hb)
    replace hU := Lib.hid (hU.out.later hb)
    have hz3 := Lib.hid hX.out.below.size
    replace hX := Lib.hid (hX.out.add hT)
    obtain ⟨V3, hV3⟩ : ∃ W, w5.alloc (.cells #[.int .i64 t2.kind, .string t2.name, .int .i64 t2.num, .slice D t2.kids.length q] 26) = W := ⟨_, rfl⟩
    replace hX : Hid (Bx w (⟨t2, D, q, w5.heap.size⟩ :: (⟨T0, none, 0, w4.heap.size⟩ :: (⟨T0, none, 0, w3.heap.size⟩ :: []))) V3) := by rw [← hV3]; exact hX
    replace hU := by have h9 := hU.out.later (X.later_alloc w5 (.cells #[.int .i64 t2.kind, .string t2.name, .int .i64 t2.num, .slice D t2.kids.length q] 26)); rw [hV3] at h9; exact Lib.hid h9
    clear hb hT k2
    go_wp2_with fail
    replace hV3 := Lib.hid hV3
    go_ret
    exact ⟨rfl, hX.out.below⟩
  · obtain ⟨t, n, ht⟩ := told_some l
    have hsm := lex_small h1 hs1
    have kp := Lib.hid (parse_some ht h1 hs1 w2 hX.out.env)
    have kt := Lib.hid (fun W hE hU => toksP_some ht B d W hE hU hsm.2 (by have := hsm.1; omega))
    have hz9 := Lib.hid (told_size ht)
    replace hL2 := Lib.hid hL2
    replace ht := Lib.hid ht
    replace hsm := Lib.hid hsm
    obtain ⟨M, hM⟩ : ∃ n, l.length = n := ⟨_, rfl⟩
    rw [hM] at kt hcd ⊢
    replace hM := Lib.hid hM
    clear h1 hs1 hcd hd9
    go_wp2_with fail
    refine kp.out.mono ?_
    rintro e w3 ⟨P, p, rfl, hb, hT⟩
    replace hX := Lib.hid (hX.out.later hb)
    replace hU := Lib.hid (hU.out.later hb)
    replace hL2 := Lib.hid (hL2.out.later hb)
    have hz1 := Lib.hid hX.out.below.size
    replace hX := Lib.hid (hX.out.add hT)
    obtain ⟨V1, hV1⟩ : ∃ W, w3.alloc (.cells #[.int .i64 t.kind, .string t.name, .int .i64 t.num, .slice P t.kids.length p] 26) = W := ⟨_, rfl⟩
    replace hX : Hid (Bx w (⟨t, P, p, w3.heap.size⟩ :: []) V1) := by rw [← hV1]; exact hX
    replace hU := by have h9 := hU.out.later (X.later_alloc w3 (.cells #[.int .i64 t.kind, .string t.name, .int .i64 t.num, .slice P t.kids.length p] 26)); rw [hV1] at h9; exact Lib.hid h9
    replace hL2 := by have h9 := hL2.out.later (X.later_alloc w3 (.cells #[.int .i64 t.kind, .string t.name, .int .i64 t.num, .slice P t.kids.length p] 26)); rw [hV1] at h9; exact Lib.hid h9
    clear hb hT kp
    replace kt := Lib.hid (kt.out V1 hX.out.env hL2.out)
    clear hL2
    go_wp2_with fail
    replace hV1 := Lib.hid hV1
    refine kt.out.mono ?_
    rintro e w4 ⟨Q, q, rfl, hb, hT⟩
    replace hX := Lib.hid (hX.out.later hb)
    replace hU := Lib.hid (hU.out.later hb)
    have hz2 := Lib.hid hX.out.below.size
    replace hX := Lib.hid (hX.out.add hT)
    obtain ⟨V2, hV2⟩ : ∃ W, w4.alloc (.cells #[.int .i64 t.kind, .string t.name, .int .i64 t.num, .slice Q t.kids.length q] 26) = W := ⟨_, rfl⟩
    replace hX : Hid (Bx w (⟨t, Q, q, w4.heap.size⟩ :: (⟨t, P, p, w3.heap.size⟩ :: [])) V2) := by rw [← hV2]; exact hX
    replace hU := by have h9 := hU.out.later (X.later_alloc w4 (.cells #[.int .i64 t.kind, .string t.name, .int .i64 t.num, .slice Q t.kids.length q] 26)); rw [hV2] at h9; exact Lib.hid h9
    clear hb hT kt
    replace k2 := Lib.hid (k2.out V2 hX.out.env hU.out)
    go_wp2_with fail
    replace hV2 := Lib.hid hV2
    refine k2.out.mono ?_
    rintro e w5 ⟨D, r, rfl, hb, hT⟩
    replace hX := Lib.hid (hX.out.later hb)
    replace hU := Lib.hid (hU.out.later hb)
    have hz3 := Lib.hid hX.out.below.size
    replace hX := Lib.hid (hX.out.add hT)
    obtain ⟨V3, hV3⟩ : ∃ W, w5.alloc (.cells #[.int .i64 t2.kind, .string t2.name, .int .i64 t2.num, .slice D t2.kids.length r] 26) = W := ⟨_, rfl⟩
    replace hX : Hid (Bx w (⟨t2, D, r, w5.heap.size⟩ :: (⟨t, Q, q, w4.heap.size⟩ :: (⟨t, P, p, w3.heap.size⟩ :: []))) V3) := by rw [← hV3]; exact hX
    replace hU := by have h9 := hU.out.later (X.later_alloc w5 (.cells #[.int .i64 t2.kind, .string t2.name, .int .i64 t2.num, .slice D t2.kids.length r] 26)); rw [hV3] at h9; exact Lib.hid h9
    clear hb hT k2
    have hnn : ((n : Int) == (n : Int)) = true := by rw [beq_self_eq_true]
    have a0 : TB.At V3 ⟨t, P, p, w3.heap.size⟩ := hX.out.at_ _ (by simp)
    have x0 : V3.heap[w3.heap.size]? = some (.cells #[.int .i64 t.kind, .string t.name, .int .i64 t.num, .slice P t.kids.length p] 26 (0, 0)) := a0.box
    have c00 := cell_of_row V3 (w3.heap.size) 0 _ _ _ x0
    have c01 := cell_of_row V3 (w3.heap.size) 1 _ _ _ x0
    have c02 := cell_of_row V3 (w3.heap.size) 2 _ _ _ x0
    have c03 := cell_of_row V3 (w3.heap.size) 3 _ _ _ x0
    replace x0 := Lib.hid x0
    replace a0 := Lib.hid a0
    have a1 : TB.At V3 ⟨t, Q, q, w4.heap.size⟩ := hX.out.at_ _ (by simp)
    have x1 : V3.heap[w4.heap.size]? = some (.cells #[.int .i64 t.kind, .string t.name, .int .i64 t.num, .slice Q t.kids.length q] 26 (0, 0)) := a1.box
    have c10 := cell_of_row V3 (w4.heap.size) 0 _ _ _ x1
    have c11 := cell_of_row V3 (w4.heap.size) 1 _ _ _ x1
    have c12 := cell_of_row V3 (w4.heap.size) 2 _ _ _ x1
    have c13 := cell_of_row V3 (w4.heap.size) 3 _ _ _ x1
    replace x1 := Lib.hid x1
    replace a1 := Lib.hid a1
    have ke : Calls Tryz.prog 22 #[.agg #[.int .i64 t.kind, .string t.name, .int .i64 t.num, .slice P t.kids.length p], .agg #[.int .i64 t.kind, .string t.name, .int .i64 t.num, .slice Q t.kids.length q]] V3 fun e w'' => e = .returned (.bool true) ∧ Below V3.heap.size V3 w'' := by
      have h9 := same_any t t P Q p q V3 (by have := hz9.out; omega) a0.out.tm a1.out.tm
      rw [Go.Proofs.YtpdombmpmhnolaaGreatDoor.Eq.self_eq] at h9
      exact h9
    replace ke := Lib.hid ke
    go_wp2_with fail
    replace hV3 := Lib.hid hV3
    refine ke.out.mono ?_
    rintro e w6 ⟨rfl, hb⟩
    replace hX := Lib.hid (hX.out.later hb)
    replace hU := Lib.hid (hU.out.later hb)
    clear hb ke
    clear a0 x0 c00 c01 c02 c03
    clear a1 x1 c10 c11 c12 c13
    have kr := X.rights_any A l2 c w6 hX.out.env.s.lx hU.out hsh.out (by have := hl2.out; omega)
    rw [htl.out] at kr
    replace kr := Lib.hid kr
    go_wp2_with fail
    refine kr.out.mono ?_
    rintro e w7 ⟨rfl, hb⟩
    replace hX := Lib.hid (hX.out.later hb)
    replace hU := Lib.hid (hU.out.later hb)
    clear hb kr
    cases hr : Go.Lx.rightL l2 with
    | true =>
      replace hr := Lib.hid hr
      go_wp2_with fail
      go_ret
      exact ⟨rfl, hX.out.below⟩
    | false =>
      have hn2 := hw2.out hr
      replace hr := Lib.hid hr
      subst hn2
      go_wp2_with fail
      go_ret
      exact ⟨rfl, hX.out.below⟩
end Go.Proofs.YtpdombmpmhnolaaGreatDoor.Pa
