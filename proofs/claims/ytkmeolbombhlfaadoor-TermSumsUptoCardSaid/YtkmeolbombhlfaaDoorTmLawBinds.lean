/-
  TermBinds's walk: true of whatever terms and name. Conditions: the tables lie as laid; the terms can be read, and have at most 1048576 terms each; the name is a text that a machine can hold.
-/
import Derived.Test.YtkmeolbombhlfaaDoorTmQuiet
namespace Go.Tm
theorem free_fun (nm s : ByteArray) (a : T) : (T.node 3 nm 0 [a]).free s = (a.free s && !decide (nm = s)) := by
  simp [T.free, frees, bindK]
theorem free_let (k : Int) (hk : k = 5 ∨ k = 9) (nm s : ByteArray) (a b : T) : (T.node k nm 0 [a, b]).free s = (a.free s || (b.free s && !decide (nm = s))) := by
  rcases hk with rfl | rfl <;> simp [T.free, frees, bindK]
end Go.Tm
namespace Go.Proofs.YtkmeolbombhlfaaDoor
open Go.RowKit Go.Shelf Go.Tm Go.Maps
attribute [local go_sem] Oper.semAt_some

/-- what is known: two terms, each in a box of its own -/
structure At2 (w W : World) (a b : Go.Tm.T) (A B : Option Addr) (ca cb : Nat) : Prop where
  now : Now w W
  ta : TmV W (· < W.heap.size) a A ca
  tb : TmV W (· < W.heap.size) b B cb
  c1 : W.heap[w.heap.size]? = some (.cells #[.int .i64 a.kind, .string a.name, .int .i64 a.num, .slice A a.kids.length ca] 24 (0, 0))
  c2 : W.heap[w.heap.size + 1]? = some (.cells #[.int .i64 b.kind, .string b.name, .int .i64 b.num, .slice B b.kids.length cb] 24 (0, 0))
theorem At2.later {w W W' : World} {a b : Go.Tm.T} {A B : Option Addr} {ca cb : Nat} (h : At2 w W a b A B ca cb) (hb : Below W.heap.size W W') : At2 w W' a b A B ca cb :=
  ⟨h.now.later hb, h.ta.later hb, h.tb.later hb, (hb.block _ (World.lt_of_get h.c1)).trans h.c1, (hb.block _ (World.lt_of_get h.c2)).trans h.c2⟩
/-- a term of one kid, which lies in block b -/
theorem one_kid {W : World} {b : Nat} {k n : Int} {s : ByteArray} {a : Go.Tm.T} {A : Option Addr} {c : Nat} {ty : TypeId} {fr : Nat × Nat} (hs : s.size ≤ 9223372036854775807) (hT : TmV W (· < W.heap.size) a A c) (hg : W.heap[b]? = some (.cells #[.int .i64 a.kind, .string a.name, .int .i64 a.num, .slice A a.kids.length c] ty fr)) : TmV W (· < W.heap.size) (.node k s n [a]) (some ⟨b, 0, none⟩) 1 := by
  refine ⟨hs, .inr ⟨_, _, rfl, ?_⟩⟩
  refine row_new (p := (· < W.heap.size)) (World.lt_of_get hg) [(a, A, c)] 0 (fun x hx => ?_) (fun i v hv => ?_)
  · obtain rfl := List.mem_singleton.1 hx
    exact hT
  · rw [Nat.zero_add, cell_of_row W b i _ _ _ hg, ← hv, ← List.getElem?_toArray]; rfl

set_option maxRecDepth 100000 in
set_option maxHeartbeats 4000000 in
theorem termBinds_any (a b : Go.Tm.T) (nm : ByteArray) (A B : Option Addr) (ca cb : Nat) (w : World) (hE : Env w) (ha : a.size ≤ 1048576) (hb : b.size ≤ 1048576) (hA : TmV w (· < w.heap.size) a A ca) (hB : TmV w (· < w.heap.size) b B cb) (hnm : nm.size ≤ 140737488355328) :
    Calls Tryd.prog 6 #[tmV a A ca, tmV b B cb, .string nm] w fun e w' => e = .returned (.bool true) ∧ Below w.heap.size w w' := by
  unfold tmV
  have hX : Hid (At2 w ((w.alloc (.cells #[.int .i64 a.kind, .string a.name, .int .i64 a.num, .slice A a.kids.length ca] 24)).alloc (.cells #[.int .i64 b.kind, .string b.name, .int .i64 b.num, .slice B b.kids.length cb] 24)) a b A B ca cb) := by
    have hb2 := ((Below.refl _ w).alloc (Nat.le_refl _) (.cells #[.int .i64 a.kind, .string a.name, .int .i64 a.num, .slice A a.kids.length ca] 24)).alloc (by simp) (.cells #[.int .i64 b.kind, .string b.name, .int .i64 b.num, .slice B b.kids.length cb] 24)
    have g := chain_get w [.cells #[.int .i64 a.kind, .string a.name, .int .i64 a.num, .slice A a.kids.length ca] 24, .cells #[.int .i64 b.kind, .string b.name, .int .i64 b.num, .slice B b.kids.length cb] 24]
    exact ⟨⟨hb2, hE.later hb2⟩, hA.later hb2, hB.later hb2, g 0 _ rfl, g 1 _ rfl⟩
  clear hE hA hB
  replace hnm := Lib.hid hnm
  go_enter Tryd.func6, Tryd.ntmps6
  go_wp2_with fail
  refine (examples_any _ hX.out.now.env).mono ?_
  rintro e w1 ⟨rfl, hb9⟩
  replace hX := Lib.hid (hX.out.later hb9)
  clear hb9
  have p0 := cell_of_row w1 w.heap.size 0 _ _ _ hX.out.c1
  have p1 := cell_of_row w1 w.heap.size 1 _ _ _ hX.out.c1
  have p2 := cell_of_row w1 w.heap.size 2 _ _ _ hX.out.c1
  have p3 := cell_of_row w1 w.heap.size 3 _ _ _ hX.out.c1
  have hX1 : Hid (At2 w (w1.alloc (.cells #[.int .i64 a.kind, .string a.name, .int .i64 a.num, .slice A a.kids.length ca] 24)) a b A B ca cb) := hX.out.later (later_alloc _ _)
  have hTf0 : Hid (TmV (w1.alloc (.cells #[.int .i64 a.kind, .string a.name, .int .i64 a.num, .slice A a.kids.length ca] 24)) (· < (w1.alloc (.cells #[.int .i64 a.kind, .string a.name, .int .i64 a.num, .slice A a.kids.length ca] 24)).heap.size) (.node 3 nm 0 [a]) (some ⟨w1.heap.size, 0, none⟩) 1) := one_kid (by have := hnm.out; omega) hX1.out.ta (World.alloc_heap_new _ _)
  have k := free_one (.node 3 nm 0 [a]) (some ⟨w1.heap.size, 0, none⟩) 1 _ (by simp only [T.size, sizes]; omega) hTf0.out
  replace k := Lib.hid k
  go_wp2_with fail
  refine k.out.mono ?_
  rintro e w2 ⟨Gf, df, rfl, hNf, hTf, hb9⟩
  clear k
  replace hX := Lib.hid (hX1.out.later hb9)
  clear hX1 hTf0 hb9
  clear p0 p1 p2 p3
  obtain ⟨lf, hlf⟩ : ∃ l, namesOf (.node 3 nm 0 [a]) = l := ⟨_, rfl⟩
  rw [hlf] at hNf hTf ⊢
  clear hlf
  replace hNf := Lib.hid hNf
  replace hTf := Lib.hid hTf
  have p0 := cell_of_row w2 w.heap.size 0 _ _ _ hX.out.c1
  have p1 := cell_of_row w2 w.heap.size 1 _ _ _ hX.out.c1
  have p2 := cell_of_row w2 w.heap.size 2 _ _ _ hX.out.c1
  have p3 := cell_of_row w2 w.heap.size 3 _ _ _ hX.out.c1
  have q0 := cell_of_row w2 (w.heap.size + 1) 0 _ _ _ hX.out.c2
  have q1 := cell_of_row w2 (w.heap.size + 1) 1 _ _ _ hX.out.c2
  have q2 := cell_of_row w2 (w.heap.size + 1) 2 _ _ _ hX.out.c2
  have q3 := cell_of_row w2 (w.heap.size + 1) 3 _ _ _ hX.out.c2
  have k := Lib.hid (two_any 5 nm a b A B ca cb w2 (by have := hnm.out; omega) hX.out.ta hX.out.tb)
  go_wp2_with fail
  refine k.out.mono ?_
  rintro e w3 ⟨gl, rfl, hb9, hTl0⟩
  replace hX := Lib.hid (hX.out.later hb9)
  replace hTf := Lib.hid (hTf.out.later hb9)
  clear hb9 k
  clear p0 p1 p2 p3 q0 q1 q2 q3
  replace hTl0 := Lib.hid hTl0
  have k := free_one (.node 5 nm 0 [a, b]) (some ⟨gl, 0, none⟩) 2 _ (by simp only [T.size, sizes]; omega) hTl0.out
  replace k := Lib.hid k
  go_wp2_with fail
  refine k.out.mono ?_
  rintro e w4 ⟨Gl, dl, rfl, hNl, hTl, hb9⟩
  clear k
  replace hX := Lib.hid (hX.out.later hb9)
  replace hTf := Lib.hid (hTf.out.later hb9)
  clear hTl0 hb9
  obtain ⟨ll, hll⟩ : ∃ l, namesOf (.node 5 nm 0 [a, b]) = l := ⟨_, rfl⟩
  rw [hll] at hNl hTl ⊢
  clear hll
  replace hNl := Lib.hid hNl
  replace hTl := Lib.hid hTl
  have p0 := cell_of_row w4 w.heap.size 0 _ _ _ hX.out.c1
  have p1 := cell_of_row w4 w.heap.size 1 _ _ _ hX.out.c1
  have p2 := cell_of_row w4 w.heap.size 2 _ _ _ hX.out.c1
  have p3 := cell_of_row w4 w.heap.size 3 _ _ _ hX.out.c1
  have q0 := cell_of_row w4 (w.heap.size + 1) 0 _ _ _ hX.out.c2
  have q1 := cell_of_row w4 (w.heap.size + 1) 1 _ _ _ hX.out.c2
  have q2 := cell_of_row w4 (w.heap.size + 1) 2 _ _ _ hX.out.c2
  have q3 := cell_of_row w4 (w.heap.size + 1) 3 _ _ _ hX.out.c2
  have k := Lib.hid (two_any 9 nm a b A B ca cb w4 (by have := hnm.out; omega) hX.out.ta hX.out.tb)
  go_wp2_with fail
  refine k.out.mono ?_
  rintro e w5 ⟨gt, rfl, hb9, hTt0⟩
  replace hX := Lib.hid (hX.out.later hb9)
  replace hTf := Lib.hid (hTf.out.later hb9)
  replace hTl := Lib.hid (hTl.out.later hb9)
  clear hb9 k
  clear p0 p1 p2 p3 q0 q1 q2 q3
  replace hTt0 := Lib.hid hTt0
  have k := free_one (.node 9 nm 0 [a, b]) (some ⟨gt, 0, none⟩) 2 _ (by simp only [T.size, sizes]; omega) hTt0.out
  replace k := Lib.hid k
  go_wp2_with fail
  refine k.out.mono ?_
  rintro e w6 ⟨Gt, dt, rfl, hNt, hTt, hb9⟩
  clear k
  replace hX := Lib.hid (hX.out.later hb9)
  replace hTf := Lib.hid (hTf.out.later hb9)
  replace hTl := Lib.hid (hTl.out.later hb9)
  clear hTt0 hb9
  obtain ⟨lt, hlt⟩ : ∃ l, namesOf (.node 9 nm 0 [a, b]) = l := ⟨_, rfl⟩
  rw [hlt] at hNt hTt ⊢
  clear hlt
  replace hNt := Lib.hid hNt
  replace hTt := Lib.hid hTt
  have p0 := cell_of_row w6 w.heap.size 0 _ _ _ hX.out.c1
  have p1 := cell_of_row w6 w.heap.size 1 _ _ _ hX.out.c1
  have p2 := cell_of_row w6 w.heap.size 2 _ _ _ hX.out.c1
  have p3 := cell_of_row w6 w.heap.size 3 _ _ _ hX.out.c1
  have k := free_one (a) A ca _ (by omega) hX.out.ta
  replace k := Lib.hid k
  go_wp2_with fail
  refine k.out.mono ?_
  rintro e w7 ⟨Gn, dn, rfl, hNn, hTn, hb9⟩
  clear k
  replace hX := Lib.hid (hX.out.later hb9)
  replace hTf := Lib.hid (hTf.out.later hb9)
  replace hTl := Lib.hid (hTl.out.later hb9)
  replace hTt := Lib.hid (hTt.out.later hb9)
  clear hb9
  clear p0 p1 p2 p3
  obtain ⟨ln, hln⟩ : ∃ l, namesOf a = l := ⟨_, rfl⟩
  rw [hln] at hNn hTn ⊢
  clear hln
  replace hNn := Lib.hid hNn
  replace hTn := Lib.hid hTn
  have q0 := cell_of_row w7 (w.heap.size + 1) 0 _ _ _ hX.out.c2
  have q1 := cell_of_row w7 (w.heap.size + 1) 1 _ _ _ hX.out.c2
  have q2 := cell_of_row w7 (w.heap.size + 1) 2 _ _ _ hX.out.c2
  have q3 := cell_of_row w7 (w.heap.size + 1) 3 _ _ _ hX.out.c2
  have k := free_one (b) B cb _ (by omega) hX.out.tb
  replace k := Lib.hid k
  go_wp2_with fail
  refine k.out.mono ?_
  rintro e w8 ⟨Gm, dm, rfl, hNm, hTm, hb9⟩
  clear k
  replace hX := Lib.hid (hX.out.later hb9)
  replace hTf := Lib.hid (hTf.out.later hb9)
  replace hTl := Lib.hid (hTl.out.later hb9)
  replace hTt := Lib.hid (hTt.out.later hb9)
  replace hTn := Lib.hid (hTn.out.later hb9)
  clear hb9
  clear q0 q1 q2 q3
  obtain ⟨lm, hlm⟩ : ∃ l, namesOf b = l := ⟨_, rfl⟩
  rw [hlm] at hNm hTm ⊢
  clear hlm
  replace hNm := Lib.hid hNm
  replace hTm := Lib.hid hTm
  have hmf : ∀ s, s ∈ lf ↔ (a.free s = true ∧ ¬ nm = s) := fun s => by
    rw [hNf.out.mem s, free_fun]; simp
  have hml : ∀ s, s ∈ ll ↔ (a.free s = true ∨ (b.free s = true ∧ ¬ nm = s)) := fun s => by
    rw [hNl.out.mem s, free_let 5 (.inl rfl)]; simp
  have hmt : lt = ll := names_eq hNt.out hNl.out.sorted hNl.out.nodup (fun s => by rw [hNl.out.mem s, free_let 5 (.inl rfl), free_let 9 (.inr rfl)])
  have hlen : ∀ (t : Go.Tm.T) (L : List ByteArray), t.size ≤ 4194304 → Names t L → L.length ≤ 4294967296 := fun t L h1 h2 => by have := names_len h2; omega
  have bf := hlen _ lf (by simp only [T.size, sizes]; omega) hNf.out
  have bl := hlen _ ll (by simp only [T.size, sizes]; omega) hNl.out
  have bn := hlen _ ln (by omega) hNn.out
  have bm := hlen _ lm (by omega) hNm.out
  subst hmt
  have hsub : lf.length ≤ ln.length := hNf.out.nodup.length_le_of_subset fun s hs => (hNn.out.mem s).2 ((hmf s).1 hs).1
  obtain ⟨r, hr⟩ : ∃ r : Bool, r = true ↔ nm ∈ ln := by
    by_cases h : nm ∈ ln
    · exact ⟨true, fun _ => h, fun _ => rfl⟩
    · exact ⟨false, fun h2 => (by cases h2), fun h2 => absurd h2 h⟩
  have kf := Lib.hid (has_same lf nm false ⟨fun h => (by cases h), fun h => absurd rfl ((hmf nm).1 h).2⟩ Gf df w8 hTf.out bf)
  have kl := Lib.hid (has_same lt nm r ⟨fun h => (hml nm).2 (.inl ((hNn.out.mem nm).1 (hr.1 h))), fun h => hr.2 ((hNn.out.mem nm).2 (((hml nm).1 h).elim id fun h => absurd rfl h.2))⟩ Gl dl w8 hTl.out bl)
  have kn := Lib.hid (has_same ln nm r hr Gn dn w8 hTn.out bn)
  have kt := texts_any lt lt Gl Gt dl dt w8 hTl.out hTt.out bl
  rw [decide_eq_true rfl] at kt
  replace kt := Lib.hid kt
  have ef : Hid (∀ W', Txs W' Gf lf → ∀ x, x ∈ ln → ¬ x = nm → Calls Tryd.prog 29 #[.slice Gf lf.length df, .string x] W' fun e w' => e = .returned (.bool true) ∧ w' = W') := fun W' h x hx hne => has_same lf x true ⟨fun _ => (hmf x).2 ⟨(hNn.out.mem x).1 hx, fun h => hne h.symm⟩, fun _ => rfl⟩ Gf df W' h bf
  have el : Hid (∀ W', Txs W' Gl lt → ∀ x, x ∈ ln → Calls Tryd.prog 29 #[.slice Gl lt.length dl, .string x] W' fun e w' => e = .returned (.bool true) ∧ w' = W') := fun W' h x hx => has_same lt x true ⟨fun _ => (hml x).2 (.inl ((hNn.out.mem x).1 hx)), fun _ => rfl⟩ Gl dl W' h bl
  have em : Hid (∀ W', Txs W' Gl lt → ∀ x, x ∈ lm → ¬ x = nm → Calls Tryd.prog 29 #[.slice Gl lt.length dl, .string x] W' fun e w' => e = .returned (.bool true) ∧ w' = W') := fun W' h x hx hne => has_same lt x true ⟨fun _ => (hml x).2 (.inr ⟨(hNm.out.mem x).1 hx, fun h => hne h.symm⟩), fun _ => rfl⟩ Gl dl W' h bl
  replace hmf := Lib.hid hmf
  replace hml := Lib.hid hml
  replace hr := Lib.hid hr
  replace bf := Lib.hid bf
  replace bl := Lib.hid bl
  replace bn := Lib.hid bn
  replace bm := Lib.hid bm
  replace hsub := Lib.hid hsub
  replace hlen := Lib.hid hlen
  obtain ⟨nf, hnf⟩ : ∃ n, lf.length = n := ⟨_, rfl⟩
  obtain ⟨nl, hnl⟩ : ∃ n, lt.length = n := ⟨_, rfl⟩
  obtain ⟨nn, hnn⟩ : ∃ n, ln.length = n := ⟨_, rfl⟩
  obtain ⟨nm9, hnm9⟩ : ∃ n, lm.length = n := ⟨_, rfl⟩
  rw [hnf] at kf ef ⊢
  rw [hnl] at kl el em kt ⊢
  rw [hnn] at kn ⊢
  rw [hnm9]
  replace hnf := Lib.hid hnf
  replace hnl := Lib.hid hnl
  replace hnn := Lib.hid hnn
  replace hnm9 := Lib.hid hnm9
  go_wp2_with fail
  refine kf.out.mono ?_
  rintro e u1 ⟨rfl, rfl⟩
  go_wp2_with fail
  refine kl.out.mono ?_
  rintro e u1 ⟨rfl, rfl⟩
  go_wp2_with fail
  refine kn.out.mono ?_
  rintro e u1 ⟨rfl, rfl⟩
  go_wp2_with fail
  refine kt.out.mono ?_
  rintro e V ⟨rfl, hb9⟩
  replace hX := Lib.hid (hX.out.later hb9)
  replace hTf := Lib.hid (hTf.out.later hb9)
  replace hTl := Lib.hid (hTl.out.later hb9)
  replace hTt := Lib.hid (hTt.out.later hb9)
  replace hTn := Lib.hid (hTn.out.later hb9)
  replace hTm := Lib.hid (hTm.out.later hb9)
  clear hb9 kf kl kn kt
  have bnn : nn ≤ 4294967296 := by rw [← hnn.out]; exact bn.out
  have bmm : nm9 ≤ 4294967296 := by rw [← hnm9.out]; exact bm.out
  go_wp2_with fail
  go_loopw [13] (fun i wr => ∃ k : Nat, k ≤ nn ∧ i = .int .i64 k ∧ Hid (V = wr)) (fun i _ => nn - (intOf i).toNat)
  case atStart => exact ⟨0, Nat.zero_le _, rfl, rfl⟩
  case round =>
    obtain ⟨k, hk, rfl, hw⟩ := hrel
    have hww := hw.out
    subst hww
    clear hw
    by_cases hlt : k < nn
    · obtain ⟨b9, off, rfl, hb9, hc⟩ := hTn.out k (by rw [hnn.out]; exact hlt)
      have hmem : Hid (ln.getD k ⟨#[]⟩ ∈ ln) := by
        show _ ∈ _
        rw [List.getD_eq_getElem?_getD, List.getElem?_eq_getElem (by rw [hnn.out]; exact hlt)]
        exact List.getElem_mem _
      obtain ⟨x, hx⟩ : ∃ q, ln.getD k ⟨#[]⟩ = q := ⟨_, rfl⟩
      rw [hx] at hc hmem
      replace hx := Lib.hid hx
      clear hb9
      cases hqq : (x.toList == nm.toList) with
      | true =>
        have hqe := bytes_eq.1 hqq
        subst hqe
        clear hqq
        go_wp2_with fail
        refine (el.out _ hTl.out _ hmem.out).mono ?_
        rintro e u ⟨rfl, rfl⟩
        go_wp2_with fail
        all_goals go_roundw
        case rel => exact ⟨k + 1, by omega, by go_num, by first | exact rfl | exact True.intro⟩
        case measure => simp [intOf]; omega
      | false =>
        have hne : Hid (¬ x = nm) := fun h => by rw [bytes_eq.2 h] at hqq; cases hqq
        have d2 : decide (x.toList = nm.toList) = false := by rw [decide_eq_false_iff_not]; exact fun h => by rw [h, beq_self_eq_true] at hqq; cases hqq
        have n2 : ¬ x.toList = nm.toList := of_decide_eq_false d2
        go_wp2_with fail
        refine (ef.out _ hTf.out _ hmem.out hne.out).mono ?_
        rintro e u ⟨rfl, rfl⟩
        go_wp2_with fail
        refine (el.out _ hTl.out _ hmem.out).mono ?_
        rintro e u ⟨rfl, rfl⟩
        go_wp2_with fail
        all_goals go_roundw
        case rel => exact ⟨k + 1, by omega, by go_num, by first | exact rfl | exact True.intro⟩
        case measure => simp [intOf]; omega
    · obtain rfl : k = nn := by omega
      clear hlt hk
      go_wp2_with fail
      go_loopw [14] (fun i wr => ∃ k2 : Nat, k2 ≤ nm9 ∧ i = .int .i64 k2 ∧ Hid (V = wr)) (fun i _ => nm9 - (intOf i).toNat)
      case atStart => exact ⟨0, Nat.zero_le _, rfl, rfl⟩
      case round =>
        obtain ⟨k2, hk2, rfl, hw⟩ := hrel
        have hww := hw.out
        subst hww
        clear hw
        by_cases hlt : k2 < nm9
        · obtain ⟨b9, off, rfl, hb9, hc⟩ := hTm.out k2 (by rw [hnm9.out]; exact hlt)
          have hmem : Hid (lm.getD k2 ⟨#[]⟩ ∈ lm) := by
            show _ ∈ _
            rw [List.getD_eq_getElem?_getD, List.getElem?_eq_getElem (by rw [hnm9.out]; exact hlt)]
            exact List.getElem_mem _
          obtain ⟨x, hx⟩ : ∃ q, lm.getD k2 ⟨#[]⟩ = q := ⟨_, rfl⟩
          rw [hx] at hc hmem
          replace hx := Lib.hid hx
          clear hb9
          cases hqq : (x.toList == nm.toList) with
          | true =>
            have hqe := bytes_eq.1 hqq
            subst hqe
            clear hqq
            go_wp2_with fail
            all_goals go_roundw
            case rel => exact ⟨k2 + 1, by omega, by go_num, by first | exact rfl | exact True.intro⟩
            case measure => simp [intOf]; omega
          | false =>
            have hne : Hid (¬ x = nm) := fun h => by rw [bytes_eq.2 h] at hqq; cases hqq
            have d2 : decide (x.toList = nm.toList) = false := by rw [decide_eq_false_iff_not]; exact fun h => by rw [h, beq_self_eq_true] at hqq; cases hqq
            have n2 : ¬ x.toList = nm.toList := of_decide_eq_false d2
            go_wp2_with fail
            refine (em.out _ hTl.out _ hmem.out hne.out).mono ?_
            rintro e u ⟨rfl, rfl⟩
            go_wp2_with fail
            all_goals go_roundw
            case rel => exact ⟨k2 + 1, by omega, by go_num, by first | exact rfl | exact True.intro⟩
            case measure => simp [intOf]; omega
        · obtain rfl : k2 = nm9 := by omega
          clear hlt hk2
          have hle : (nf : Int) ≤ (k : Int) := by have := hsub.out; have h1 := hnf.out; have h2 := hnn.out; omega
          have hld : decide ((nf : Int) ≤ (k : Int)) = true := decide_eq_true hle
          go_wp2_with fail
          go_ret
          exact ⟨rfl, hX.out.now.below⟩
end Go.Proofs.YtkmeolbombhlfaaDoor
