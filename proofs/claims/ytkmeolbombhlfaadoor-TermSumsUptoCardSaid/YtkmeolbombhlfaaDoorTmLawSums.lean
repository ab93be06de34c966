/-
  TermSums's walk: true of whatever terms. Conditions: the tables lie as laid; the terms can be read, and have at most 1048576 terms each.
-/
import Derived.Test.YtkmeolbombhlfaaDoorTmLawBinds
import Derived.Test.YtkmeolbombhlfaaDoorTmRightM
import Derived.Laws.Cover1
import Derived.Sort.Walk0
namespace Go.Tm
theorem free_two (k : Int) (hk : bindK k = false) (h2 : k ≠ 2) (nm s : ByteArray) (a b : T) : (T.node k nm 0 [a, b]).free s = (a.free s || b.free s) := by
  have : (k == 2) = false := by simpa using h2
  simp [T.free, frees, hk, this]
end Go.Tm
namespace Go.Proofs.YtkmeolbombhlfaaDoor
open Go.RowKit Go.Shelf Go.Tm Go.Maps
attribute [local go_sem] Oper.semAt_some

/-- two terms, and the one of both -/
structure AtT (w W : World) (a b : Go.Tm.T) (A B : Option Addr) (ca cb gt bt : Nat) : Prop where
  two : At2 w W a b A B ca cb
  tt : TmV W (· < W.heap.size) (.node 13 ⟨#[]⟩ 0 [a, b]) (some ⟨gt, 0, none⟩) 2
  ct : W.heap[bt]? = some (.cells #[.int .i64 13, .string ⟨#[]⟩, .int .i64 0, .slice (some ⟨gt, 0, none⟩) 2 2] 24 (0, 0))
theorem AtT.later {w W W' : World} {a b : Go.Tm.T} {A B : Option Addr} {ca cb gt bt : Nat} (h : AtT w W a b A B ca cb gt bt) (hb : Below W.heap.size W W') : AtT w W' a b A B ca cb gt bt :=
  ⟨h.two.later hb, h.tt.later hb, (hb.block _ (World.lt_of_get h.ct)).trans h.ct⟩

/-- such a world -/
structure AtS (w : World) (a b : Go.Tm.T) (A B : Option Addr) (ca cb gt bt : Nat) where
  W : World
  ok : AtT w W a b A B ca cb gt bt

set_option maxRecDepth 100000 in
set_option maxHeartbeats 4000000 in
theorem termSums_any (a b : Go.Tm.T) (A B : Option Addr) (ca cb : Nat) (w : World) (hE : Env w) (ha : a.size ≤ 1048576) (hb : b.size ≤ 1048576) (hA : TmV w (· < w.heap.size) a A ca) (hB : TmV w (· < w.heap.size) b B cb) :
    Calls Tryd.prog 5 #[tmV a A ca, tmV b B cb] w fun e w' => e = .returned (.bool true) ∧ Below w.heap.size w w' := by
  unfold tmV
  have hX : Hid (At2 w ((w.alloc (.cells #[.int .i64 a.kind, .string a.name, .int .i64 a.num, .slice A a.kids.length ca] 24)).alloc (.cells #[.int .i64 b.kind, .string b.name, .int .i64 b.num, .slice B b.kids.length cb] 24)) a b A B ca cb) := by
    have hb2 := ((Below.refl _ w).alloc (Nat.le_refl _) (.cells #[.int .i64 a.kind, .string a.name, .int .i64 a.num, .slice A a.kids.length ca] 24)).alloc (by simp) (.cells #[.int .i64 b.kind, .string b.name, .int .i64 b.num, .slice B b.kids.length cb] 24)
    have g := chain_get w [.cells #[.int .i64 a.kind, .string a.name, .int .i64 a.num, .slice A a.kids.length ca] 24, .cells #[.int .i64 b.kind, .string b.name, .int .i64 b.num, .slice B b.kids.length cb] 24]
    exact ⟨⟨hb2, hE.later hb2⟩, hA.later hb2, hB.later hb2, g 0 _ rfl, g 1 _ rfl⟩
  clear hE hA hB
  go_enter Tryd.func5, Tryd.ntmps5
  go_wp2_with fail
  refine (examples_any _ hX.out.now.env).mono ?_
  rintro e w1 ⟨rfl, hb9⟩
  replace hX := Lib.hid (hX.out.later hb9)
  clear hb9
  have p0 := cell_of_row w1 w.heap.size 0 _ _ _ hX.out.c1
  have p1 := cell_of_row w1 w.heap.size 1 _ _ _ hX.out.c1
  have p2 := cell_of_row w1 w.heap.size 2 _ _ _ hX.out.c1
  have p3 := cell_of_row w1 w.heap.size 3 _ _ _ hX.out.c1
  have q0 := cell_of_row w1 (w.heap.size + 1) 0 _ _ _ hX.out.c2
  have q1 := cell_of_row w1 (w.heap.size + 1) 1 _ _ _ hX.out.c2
  have q2 := cell_of_row w1 (w.heap.size + 1) 2 _ _ _ hX.out.c2
  have q3 := cell_of_row w1 (w.heap.size + 1) 3 _ _ _ hX.out.c2
  have k := Lib.hid (two_any 13 ⟨#[]⟩ a b A B ca cb w1 (by decide) hX.out.ta hX.out.tb)
  go_wp2_with fail
  refine k.out.mono ?_
  rintro e w2 ⟨gt, rfl, hb9, hTt0⟩
  replace hX := Lib.hid (hX.out.later hb9)
  clear hb9 k
  clear p0 p1 p2 p3 q0 q1 q2 q3
  have p0 := cell_of_row w2 w.heap.size 0 _ _ _ hX.out.c1
  have p1 := cell_of_row w2 w.heap.size 1 _ _ _ hX.out.c1
  have p2 := cell_of_row w2 w.heap.size 2 _ _ _ hX.out.c1
  have p3 := cell_of_row w2 w.heap.size 3 _ _ _ hX.out.c1
  have lta := World.lt_of_get hX.out.c1
  obtain ⟨V, hV⟩ : ∃ V, w2.alloc (.cells #[.int .i64 13, .string ⟨#[]⟩, .int .i64 0, .slice (some ⟨gt, 0, none⟩) 2 2] 24) = V := ⟨_, rfl⟩
  have hbV : Below w2.heap.size w2 V := by rw [← hV]; exact later_alloc _ _
  have hX2 : Hid (At2 w V a b A B ca cb) := hX.out.later hbV
  have hZ : Hid (TmV V (· < V.heap.size) (.node 13 ⟨#[]⟩ 0 [a, b]) (some ⟨gt, 0, none⟩) 2 ∧ V.heap[w2.heap.size]? = some (.cells #[.int .i64 13, .string ⟨#[]⟩, .int .i64 0, .slice (some ⟨gt, 0, none⟩) 2 2] 24 (0, 0))) := ⟨hTt0.later hbV, by rw [← hV]; exact World.alloc_heap_new _ _⟩
  replace hTt0 := Lib.hid hTt0
  have k := Lib.hid (free_one a A ca V (by omega) hX2.out.ta)
  replace hV := Lib.hid hV
  go_wp2_with fail
  rw [hV.out]
  refine k.out.mono ?_
  rintro e w3 ⟨Gn, dn, rfl, hNn, hTn, hb9⟩
  clear k hX lta hTt0 hbV
  have hX := Lib.hid (hX2.out.later hb9)
  clear p0 p1 p2 p3
  replace hZ : Hid (TmV w3 (· < w3.heap.size) (.node 13 ⟨#[]⟩ 0 [a, b]) (some ⟨gt, 0, none⟩) 2 ∧ w3.heap[w2.heap.size]? = some (.cells #[.int .i64 13, .string ⟨#[]⟩, .int .i64 0, .slice (some ⟨gt, 0, none⟩) 2 2] 24 (0, 0))) := ⟨hZ.out.1.later hb9, (hb9.block _ (World.lt_of_get hZ.out.2)).trans hZ.out.2⟩
  clear hX2 hb9 hV
  obtain ⟨bt, hbt⟩ : ∃ x, w2.heap.size = x := ⟨_, rfl⟩
  rw [hbt] at hZ ⊢
  clear hbt
  obtain ⟨ln, hln⟩ : ∃ l, namesOf a = l := ⟨_, rfl⟩
  rw [hln] at hNn hTn ⊢
  clear hln
  replace hNn := Lib.hid hNn
  replace hTn := Lib.hid hTn
  have q0 := cell_of_row w3 (w.heap.size + 1) 0 _ _ _ hX.out.c2
  have q1 := cell_of_row w3 (w.heap.size + 1) 1 _ _ _ hX.out.c2
  have q2 := cell_of_row w3 (w.heap.size + 1) 2 _ _ _ hX.out.c2
  have q3 := cell_of_row w3 (w.heap.size + 1) 3 _ _ _ hX.out.c2
  have k := free_one (b) B cb _ (by omega) hX.out.tb
  replace k := Lib.hid k
  go_wp2_with fail
  refine k.out.mono ?_
  rintro e w4 ⟨Gm, dm, rfl, hNm, hTm, hb9⟩
  clear k
  replace hX := Lib.hid (hX.out.later hb9)
  replace hZ : Hid (TmV w4 (· < w4.heap.size) (.node 13 ⟨#[]⟩ 0 [a, b]) (some ⟨gt, 0, none⟩) 2 ∧ w4.heap[bt]? = some (.cells #[.int .i64 13, .string ⟨#[]⟩, .int .i64 0, .slice (some ⟨gt, 0, none⟩) 2 2] 24 (0, 0))) := ⟨hZ.out.1.later hb9, (hb9.block _ (World.lt_of_get hZ.out.2)).trans hZ.out.2⟩
  replace hTn := Lib.hid (hTn.out.later hb9)
  clear hb9
  clear q0 q1 q2 q3
  obtain ⟨lm, hlm⟩ : ∃ l, namesOf (b) = l := ⟨_, rfl⟩
  rw [hlm] at hNm hTm ⊢
  clear hlm
  replace hNm := Lib.hid hNm
  replace hTm := Lib.hid hTm
  have r0 := cell_of_row w4 bt 0 _ _ _ hZ.out.2
  have r1 := cell_of_row w4 bt 1 _ _ _ hZ.out.2
  have r2 := cell_of_row w4 bt 2 _ _ _ hZ.out.2
  have r3 := cell_of_row w4 bt 3 _ _ _ hZ.out.2
  have k := free_one (.node 13 ⟨#[]⟩ 0 [a, b]) (some ⟨gt, 0, none⟩) 2 _ (by simp only [T.size, sizes]; omega) hZ.out.1
  replace k := Lib.hid k
  go_wp2_with fail
  refine k.out.mono ?_
  rintro e w5 ⟨Gf, df, rfl, hNf, hTf, hb9⟩
  clear k
  replace hX := Lib.hid (hX.out.later hb9)
  replace hZ : Hid (TmV w5 (· < w5.heap.size) (.node 13 ⟨#[]⟩ 0 [a, b]) (some ⟨gt, 0, none⟩) 2 ∧ w5.heap[bt]? = some (.cells #[.int .i64 13, .string ⟨#[]⟩, .int .i64 0, .slice (some ⟨gt, 0, none⟩) 2 2] 24 (0, 0))) := ⟨hZ.out.1.later hb9, (hb9.block _ (World.lt_of_get hZ.out.2)).trans hZ.out.2⟩
  replace hTn := Lib.hid (hTn.out.later hb9)
  replace hTm := Lib.hid (hTm.out.later hb9)
  clear hb9
  clear r0 r1 r2 r3
  obtain ⟨lf, hlf⟩ : ∃ l, namesOf (.node 13 ⟨#[]⟩ 0 [a, b]) = l := ⟨_, rfl⟩
  rw [hlf] at hNf hTf ⊢
  clear hlf
  replace hNf := Lib.hid hNf
  replace hTf := Lib.hid hTf
  have hmf : ∀ s, s ∈ lf ↔ (a.free s = true ∨ b.free s = true) := fun s => by
    rw [hNf.out.mem s, free_two 13 (by decide) (by decide)]; simp
  have hlen : ∀ (t : Go.Tm.T) (L : List ByteArray), t.size ≤ 4194304 → Names t L → L.length ≤ 4294967296 := fun t L h1 h2 => by have := names_len h2; omega
  have bf := hlen _ lf (by simp only [T.size, sizes]; omega) hNf.out
  have bn := hlen _ ln (by omega) hNn.out
  have bm := hlen _ lm (by omega) hNm.out
  have en : Hid (∀ W', Txs W' Gn ln → ∀ x (r : Bool), (r = true ↔ x ∈ ln) → Calls Tryd.prog 29 #[.slice Gn ln.length dn, .string x] W' fun e w' => e = .returned (.bool r) ∧ w' = W') := fun W' h x r hr => has_same ln x r hr Gn dn W' h bn
  have em : Hid (∀ W', Txs W' Gm lm → ∀ x, x ∈ lm → Calls Tryd.prog 29 #[.slice Gm lm.length dm, .string x] W' fun e w' => e = .returned (.bool true) ∧ w' = W') := fun W' h x hx => has_same lm x true ⟨fun _ => hx, fun _ => rfl⟩ Gm dm W' h bm
  have ef : Hid (∀ W', Txs W' Gf lf → ∀ x, (x ∈ ln ∨ x ∈ lm) → Calls Tryd.prog 29 #[.slice Gf lf.length df, .string x] W' fun e w' => e = .returned (.bool true) ∧ w' = W') := fun W' h x hx => has_same lf x true ⟨fun _ => (hmf x).2 (hx.imp (hNn.out.mem x).1 (hNm.out.mem x).1), fun _ => rfl⟩ Gf df W' h bf
  replace hmf := Lib.hid hmf
  replace bf := Lib.hid bf
  replace bn := Lib.hid bn
  replace bm := Lib.hid bm
  replace hlen := Lib.hid hlen
  obtain ⟨nf, hnf⟩ : ∃ n, lf.length = n := ⟨_, rfl⟩
  obtain ⟨nn, hnn⟩ : ∃ n, ln.length = n := ⟨_, rfl⟩
  obtain ⟨nm9, hnm9⟩ : ∃ n, lm.length = n := ⟨_, rfl⟩
  rw [hnf] at ef ⊢
  rw [hnn] at en ⊢
  rw [hnm9] at em ⊢
  have bff : nf ≤ 4294967296 := by rw [← hnf]; exact bf.out
  have bnn : nn ≤ 4294967296 := by rw [← hnn]; exact bn.out
  have bmm : nm9 ≤ 4294967296 := by rw [← hnm9]; exact bm.out
  replace hnf := Lib.hid hnf
  replace hnn := Lib.hid hnn
  replace hnm9 := Lib.hid hnm9
  go_wp2_with fail
  go_loopw [10] (fun i wr => ∃ k : Nat, k ≤ nf ∧ i = .int .i64 k ∧ Hid (Below w5.heap.size w5 wr)) (fun i _ => nf - (intOf i).toNat)
  case atStart => exact ⟨0, Nat.zero_le _, rfl, Below.refl _ _⟩
  case round =>
    obtain ⟨k, hk, rfl, hB⟩ := hrel
    by_cases hlt : k < nf
    · have hTf2 := Lib.hid (hTf.out.later hB.out)
      have hTn2 := Lib.hid (hTn.out.later hB.out)
      have hTm2 := Lib.hid (hTm.out.later hB.out)
      obtain ⟨b9, off, rfl, hb9, hc⟩ := hTf2.out k (by rw [hnf.out]; exact hlt)
      have hmem : Hid (lf.getD k ⟨#[]⟩ ∈ lf) := by
        show _ ∈ _
        rw [List.getD_eq_getElem?_getD, List.getElem?_eq_getElem (by rw [hnf.out]; exact hlt)]
        exact List.getElem_mem _
      have hprev : Hid (∀ j, k = j + 1 → (lf.getD j ⟨#[]⟩).data.toList < (lf.getD k ⟨#[]⟩).data.toList) := fun j hj => by
        subst hj
        have h1 := hNf.out.sorted
        have h2 := hNf.out.nodup
        have hj1 : j + 1 < lf.length := by rw [hnf.out]; exact hlt
        rw [List.getD_eq_getElem?_getD, List.getD_eq_getElem?_getD, List.getElem?_eq_getElem hj1, List.getElem?_eq_getElem (show j < lf.length by omega)]
        show lf[j].data.toList < lf[j + 1].data.toList
        have h3 := List.pairwise_iff_getElem.1 h1 j (j + 1) (by omega) hj1 (by omega)
        have h4 := List.pairwise_iff_getElem.1 h2 j (j + 1) (by omega) hj1 (by omega)
        rcases List.le_iff_lt_or_eq.1 h3 with h5 | h5
        · exact h5
        · exact absurd (by cases h6 : lf[j]; cases h7 : lf[j + 1]; rw [h6, h7] at h5; have h8 := Array.toList_inj.1 h5; simp only at h8; rw [h8]) h4
      obtain ⟨x, hx⟩ : ∃ q, lf.getD k ⟨#[]⟩ = q := ⟨_, rfl⟩
      rw [hx] at hc hmem hprev
      replace hx := Lib.hid hx
      clear hb9
      have hor : Hid (x ∈ ln ∨ x ∈ lm) := (hmf.out x).1 hmem.out |>.imp (hNn.out.mem x).2 (hNm.out.mem x).2
      have hk9 : Hid (∀ q, Below w5.heap.size w5 (wr.drewN q)) := fun q => belowN hB.out q
      have hk0 : k = 0 ∨ ∃ j, k = j + 1 := by cases k with | zero => exact .inl rfl | succ j => exact .inr ⟨j, rfl⟩
      rcases hk0 with hk0 | ⟨j, hk0⟩
      · subst hk0
        rw [Nat.add_zero] at hc
        by_cases hin : x ∈ ln
        case pos =>
          have kq : Hid (∀ q v r, (v = .slice Gn nn dn ∧ r = true) → Calls Tryd.prog 29 #[v, .string x] (wr.drewN q) fun e w'' => e = .returned (.bool r) ∧ ∃ m, w'' = wr.drewN m) := fun q v r hv => by
            obtain ⟨rfl, rfl⟩ := hv
            · exact Calls.quiet_of_same (en.out (wr.drewN q) (hTn2.out : Txs wr Gn ln) x true ⟨fun _ => hin, fun _ => rfl⟩)
          replace hin := Lib.hid hin
          go_wp2_with fail
          go_quiet (exact kq.out _ _ _ (by first | exact ⟨rfl, rfl⟩ | exact .inl ⟨rfl, rfl⟩ | exact .inr ⟨rfl, rfl⟩))
          all_goals go_wp2
          all_goals go_roundw
          case rel => exact ⟨1, by omega, by go_num, hk9.out _⟩
          case measure => simp [intOf]; omega
        case neg =>
          have kq : Hid (∀ q v r, ((v = .slice Gn nn dn ∧ r = false) ∨ (v = .slice Gm nm9 dm ∧ r = true)) → Calls Tryd.prog 29 #[v, .string x] (wr.drewN q) fun e w'' => e = .returned (.bool r) ∧ ∃ m, w'' = wr.drewN m) := fun q v r hv => by
            rcases hv with ⟨rfl, rfl⟩ | ⟨rfl, rfl⟩
            · exact Calls.quiet_of_same (en.out (wr.drewN q) (hTn2.out : Txs wr Gn ln) x false ⟨fun h => (by cases h), fun h => absurd h hin⟩)
            · exact Calls.quiet_of_same (em.out (wr.drewN q) (hTm2.out : Txs wr Gm lm) x (hor.out.resolve_left hin))
          replace hin := Lib.hid hin
          go_wp2_with fail
          go_quiet (exact kq.out _ _ _ (by first | exact ⟨rfl, rfl⟩ | exact .inl ⟨rfl, rfl⟩ | exact .inr ⟨rfl, rfl⟩))
          all_goals go_wp2
          all_goals go_roundw
          case rel => exact ⟨1, by omega, by go_num, hk9.out _⟩
          case measure => simp [intOf]; omega
      · have hgt : (0 : Int) < (k : Int) := by omega
        obtain ⟨b8, off8, e8, _, hc8⟩ := hTf2.out j (by rw [hnf.out]; omega)
        cases e8
        have hlt2 := hprev.out j hk0
        obtain ⟨y, hy⟩ : ∃ q, lf.getD j ⟨#[]⟩ = q := ⟨_, rfl⟩
        rw [hy] at hc8 hlt2
        replace hy := Lib.hid hy
        have hjw : IntKind.i64.wrap ((k : Int) - 1) = (j : Int) := by rw [show ((k : Int) - 1) = (j : Int) by omega]; exact wrap_small _ (by omega) (by omega)
        have hjn : j < nf := by omega
        have hbl : Op.bytesLess y.toList x.toList = true := by rw [bytesLess_eq, ByteArray.toList_eq, ByteArray.toList_eq]; exact decide_eq_true hlt2
        replace hlt2 := Lib.hid hlt2
        have hgd : decide ((0 : Int) < (k : Int)) = true := decide_eq_true hgt
        have hgn : 0 < k := by omega
        have hgm : decide (0 < k) = true := decide_eq_true hgn
        have hkj := Lib.hid hk0
        clear hk0
        by_cases hin : x ∈ ln
        case pos =>
          have kq : Hid (∀ q v r, (v = .slice Gn nn dn ∧ r = true) → Calls Tryd.prog 29 #[v, .string x] (wr.drewN q) fun e w'' => e = .returned (.bool r) ∧ ∃ m, w'' = wr.drewN m) := fun q v r hv => by
            obtain ⟨rfl, rfl⟩ := hv
            · exact Calls.quiet_of_same (en.out (wr.drewN q) (hTn2.out : Txs wr Gn ln) x true ⟨fun _ => hin, fun _ => rfl⟩)
          replace hin := Lib.hid hin
          go_wp2_with fail
          go_quiet (exact kq.out _ _ _ (by first | exact ⟨rfl, rfl⟩ | exact .inl ⟨rfl, rfl⟩ | exact .inr ⟨rfl, rfl⟩))
          all_goals go_wp2
          all_goals go_roundw
          case rel => exact ⟨k + 1, by omega, by go_num, hk9.out _⟩
          case measure => simp [intOf]; omega
        case neg =>
          have kq : Hid (∀ q v r, ((v = .slice Gn nn dn ∧ r = false) ∨ (v = .slice Gm nm9 dm ∧ r = true)) → Calls Tryd.prog 29 #[v, .string x] (wr.drewN q) fun e w'' => e = .returned (.bool r) ∧ ∃ m, w'' = wr.drewN m) := fun q v r hv => by
            rcases hv with ⟨rfl, rfl⟩ | ⟨rfl, rfl⟩
            · exact Calls.quiet_of_same (en.out (wr.drewN q) (hTn2.out : Txs wr Gn ln) x false ⟨fun h => (by cases h), fun h => absurd h hin⟩)
            · exact Calls.quiet_of_same (em.out (wr.drewN q) (hTm2.out : Txs wr Gm lm) x (hor.out.resolve_left hin))
          replace hin := Lib.hid hin
          go_wp2_with fail
          go_quiet (exact kq.out _ _ _ (by first | exact ⟨rfl, rfl⟩ | exact .inl ⟨rfl, rfl⟩ | exact .inr ⟨rfl, rfl⟩))
          all_goals go_wp2
          all_goals go_roundw
          case rel => exact ⟨k + 1, by omega, by go_num, hk9.out _⟩
          case measure => simp [intOf]; omega
    · obtain rfl : k = nf := by omega
      clear hlt hk
      replace hTf := Lib.hid (hTf.out.later hB.out)
      replace hTn := Lib.hid (hTn.out.later hB.out)
      replace hTm := Lib.hid (hTm.out.later hB.out)
      replace hX := Lib.hid (hX.out.later hB.out)
      replace hZ : Hid (TmV wr (· < wr.heap.size) (.node 13 ⟨#[]⟩ 0 [a, b]) (some ⟨gt, 0, none⟩) 2 ∧ wr.heap[bt]? = some (.cells #[.int .i64 13, .string ⟨#[]⟩, .int .i64 0, .slice (some ⟨gt, 0, none⟩) 2 2] 24 (0, 0))) := ⟨hZ.out.1.later hB.out, (hB.out.block _ (World.lt_of_get hZ.out.2)).trans hZ.out.2⟩
      clear hB
      obtain ⟨V9, hV9⟩ : ∃ V, V = wr := ⟨_, rfl⟩
      subst hV9
      go_wp2_with fail
      go_loopw [11] (fun i wr => ∃ k2 : Nat, k2 ≤ nn ∧ i = .int .i64 k2 ∧ Hid (V9 = wr)) (fun i _ => nn - (intOf i).toNat)
      case atStart => exact ⟨0, Nat.zero_le _, rfl, rfl⟩
      case round =>
        obtain ⟨k2, hk2, rfl, hw⟩ := hrel
        have hww := hw.out
        subst hww
        clear hw
        by_cases hlt : k2 < nn
        · obtain ⟨b9, off, rfl, hb9, hc⟩ := hTn.out k2 (by rw [hnn.out]; exact hlt)
          have hmem : Hid (ln.getD k2 ⟨#[]⟩ ∈ ln) := by
            show _ ∈ _
            rw [List.getD_eq_getElem?_getD, List.getElem?_eq_getElem (by rw [hnn.out]; exact hlt)]
            exact List.getElem_mem _
          obtain ⟨x, hx⟩ : ∃ q, ln.getD k2 ⟨#[]⟩ = q := ⟨_, rfl⟩
          rw [hx] at hc hmem
          replace hx := Lib.hid hx
          clear hb9
          go_wp2_with fail
          refine (ef.out _ hTf.out _ (.inl hmem.out)).mono ?_
          rintro e u ⟨rfl, rfl⟩
          go_wp2_with fail
          all_goals go_roundw
          case rel => exact ⟨k2 + 1, by omega, by go_num, by first | exact rfl | exact True.intro⟩
          case measure => simp [intOf]; omega
        · obtain rfl : k2 = nn := by omega
          clear hlt hk2
          go_wp2_with fail
          go_loopw [12] (fun i wr => ∃ k3 : Nat, k3 ≤ nm9 ∧ i = .int .i64 k3 ∧ Hid (V9 = wr)) (fun i _ => nm9 - (intOf i).toNat)
          case atStart => exact ⟨0, Nat.zero_le _, rfl, rfl⟩
          case round =>
            obtain ⟨k3, hk3, rfl, hw⟩ := hrel
            have hww := hw.out
            subst hww
            clear hw
            by_cases hlt : k3 < nm9
            · obtain ⟨b9, off, rfl, hb9, hc⟩ := hTm.out k3 (by rw [hnm9.out]; exact hlt)
              have hmem : Hid (lm.getD k3 ⟨#[]⟩ ∈ lm) := by
                show _ ∈ _
                rw [List.getD_eq_getElem?_getD, List.getElem?_eq_getElem (by rw [hnm9.out]; exact hlt)]
                exact List.getElem_mem _
              obtain ⟨x, hx⟩ : ∃ q, lm.getD k3 ⟨#[]⟩ = q := ⟨_, rfl⟩
              rw [hx] at hc hmem
              replace hx := Lib.hid hx
              clear hb9
              go_wp2_with fail
              refine (ef.out _ hTf.out _ (.inr hmem.out)).mono ?_
              rintro e u ⟨rfl, rfl⟩
              go_wp2_with fail
              all_goals go_roundw
              case rel => exact ⟨k3 + 1, by omega, by go_num, by first | exact rfl | exact True.intro⟩
              case measure => simp [intOf]; omega
            · obtain rfl : k3 = nm9 := by omega
              clear hlt hk3
              clear ef en em hTf hTn hTm
              obtain ⟨sa, hsa⟩ : ∃ n, a.size = n := ⟨_, rfl⟩
              obtain ⟨sb, hsb⟩ : ∃ n, b.size = n := ⟨_, rfl⟩
              obtain ⟨da, hda⟩ : ∃ n, a.depth = n := ⟨_, rfl⟩
              obtain ⟨db, hdb⟩ : ∃ n, b.depth = n := ⟨_, rfl⟩
              have hst : (Go.Tm.T.node 13 ⟨#[]⟩ 0 [a, b]).size = 1 + sa + sb := by simp only [T.size, sizes]; omega
              have hdt : (Go.Tm.T.node 13 ⟨#[]⟩ 0 [a, b]).depth = 1 + max da db := by simp only [T.depth, depths]; omega
              have hdal : da ≤ 1048576 := by have := depth_le a; omega
              have hdbl : db ≤ 1048576 := by have := depth_le b; omega
              have hY : Hid (AtT w V9 a b A B ca cb gt bt) := ⟨hX.out, hZ.out.1, hZ.out.2⟩
              clear hX hZ hmf bf bn bm hlen hNf hNn hNm hnf hnn hnm9
              have p0 : ∀ s : AtS w a b A B ca cb gt bt, s.W.cell? ⟨w.heap.size, 0, none⟩ = some (.int .i64 a.kind) := fun s => cell_of_row s.W w.heap.size 0 _ _ _ s.ok.two.c1
              have p1 : ∀ s : AtS w a b A B ca cb gt bt, s.W.cell? ⟨w.heap.size, 1, none⟩ = some (.string a.name) := fun s => cell_of_row s.W w.heap.size 1 _ _ _ s.ok.two.c1
              have p2 : ∀ s : AtS w a b A B ca cb gt bt, s.W.cell? ⟨w.heap.size, 2, none⟩ = some (.int .i64 a.num) := fun s => cell_of_row s.W w.heap.size 2 _ _ _ s.ok.two.c1
              have p3 : ∀ s : AtS w a b A B ca cb gt bt, s.W.cell? ⟨w.heap.size, 3, none⟩ = some (.slice A a.kids.length ca) := fun s => cell_of_row s.W w.heap.size 3 _ _ _ s.ok.two.c1
              have q0 : ∀ s : AtS w a b A B ca cb gt bt, s.W.cell? ⟨(w.heap.size + 1), 0, none⟩ = some (.int .i64 b.kind) := fun s => cell_of_row s.W (w.heap.size + 1) 0 _ _ _ s.ok.two.c2
              have q1 : ∀ s : AtS w a b A B ca cb gt bt, s.W.cell? ⟨(w.heap.size + 1), 1, none⟩ = some (.string b.name) := fun s => cell_of_row s.W (w.heap.size + 1) 1 _ _ _ s.ok.two.c2
              have q2 : ∀ s : AtS w a b A B ca cb gt bt, s.W.cell? ⟨(w.heap.size + 1), 2, none⟩ = some (.int .i64 b.num) := fun s => cell_of_row s.W (w.heap.size + 1) 2 _ _ _ s.ok.two.c2
              have q3 : ∀ s : AtS w a b A B ca cb gt bt, s.W.cell? ⟨(w.heap.size + 1), 3, none⟩ = some (.slice B b.kids.length cb) := fun s => cell_of_row s.W (w.heap.size + 1) 3 _ _ _ s.ok.two.c2
              have r0 : ∀ s : AtS w a b A B ca cb gt bt, s.W.cell? ⟨bt, 0, none⟩ = some (.int .i64 13) := fun s => cell_of_row s.W bt 0 _ _ _ s.ok.ct
              have r1 : ∀ s : AtS w a b A B ca cb gt bt, s.W.cell? ⟨bt, 1, none⟩ = some (.string ⟨#[]⟩) := fun s => cell_of_row s.W bt 1 _ _ _ s.ok.ct
              have r2 : ∀ s : AtS w a b A B ca cb gt bt, s.W.cell? ⟨bt, 2, none⟩ = some (.int .i64 0) := fun s => cell_of_row s.W bt 2 _ _ _ s.ok.ct
              have r3 : ∀ s : AtS w a b A B ca cb gt bt, s.W.cell? ⟨bt, 3, none⟩ = some (.slice (some ⟨gt, 0, none⟩) 2 2) := fun s => cell_of_row s.W bt 3 _ _ _ s.ok.ct
              have hw1 : IntKind.i64.wrap (1 + (sa : Int)) = 1 + (sa : Int) := wrap_small _ (by omega) (by omega)
              have hw2 : IntKind.i64.wrap (1 + (sa : Int) + (sb : Int)) = 1 + (sa : Int) + (sb : Int) := wrap_small _ (by omega) (by omega)
              have KS : Hid (∀ (s : AtS w a b A B ca cb gt bt) (v r : Value), ((v = .agg #[.int .i64 a.kind, .string a.name, .int .i64 a.num, .slice A a.kids.length ca] ∧ r = .int .i64 (sa : Nat)) ∨ (v = .agg #[.int .i64 b.kind, .string b.name, .int .i64 b.num, .slice B b.kids.length cb] ∧ r = .int .i64 (sb : Nat)) ∨ (v = .agg #[.int .i64 13, .string ⟨#[]⟩, .int .i64 0, .slice (some ⟨gt, 0, none⟩) 2 2] ∧ r = .int .i64 (1 + (sa : Int) + (sb : Int)))) → Calls Tryd.prog 15 #[v] s.W fun e w'' => e = .returned r ∧ ∃ s' : AtS w a b A B ca cb gt bt, w'' = s'.W) := fun s v r hv => by
                rcases hv with ⟨rfl, rfl⟩ | ⟨rfl, rfl⟩ | ⟨rfl, rfl⟩
                · exact (size_any a A ca s.W (by omega) s.ok.two.ta).mono fun e w' h9 => ⟨by rw [h9.1, hsa], ⟨w', s.ok.later h9.2⟩, rfl⟩
                · exact (size_any b B cb s.W (by omega) s.ok.two.tb).mono fun e w' h9 => ⟨by rw [h9.1, hsb], ⟨w', s.ok.later h9.2⟩, rfl⟩
                · exact (size_any (.node 13 ⟨#[]⟩ 0 [a, b]) (some ⟨gt, 0, none⟩) 2 s.W (by simp only [T.size, sizes]; omega) s.ok.tt).mono fun e w' h9 => ⟨by rw [h9.1, hst]; push_cast; rfl, ⟨w', s.ok.later h9.2⟩, rfl⟩
              obtain ⟨ra, hra⟩ : ∃ n, rightT a = n := ⟨_, rfl⟩
              obtain ⟨rb, hrb⟩ : ∃ n, rightT b = n := ⟨_, rfl⟩
              obtain ⟨rt, hrt⟩ : ∃ n, rightT (.node 13 ⟨#[]⟩ 0 [a, b]) = n := ⟨_, rfl⟩
              have hrr : rt = true → ra = true ∧ rb = true := fun h => by rw [← hra, ← hrb]; exact right_two (by rw [hrt, h])
              have KR : Hid (∀ (s : AtS w a b A B ca cb gt bt) (v r : Value), ((v = .agg #[.int .i64 a.kind, .string a.name, .int .i64 a.num, .slice A a.kids.length ca] ∧ r = .bool ra) ∨ (v = .agg #[.int .i64 b.kind, .string b.name, .int .i64 b.num, .slice B b.kids.length cb] ∧ r = .bool rb) ∨ (v = .agg #[.int .i64 13, .string ⟨#[]⟩, .int .i64 0, .slice (some ⟨gt, 0, none⟩) 2 2] ∧ r = .bool rt)) → Calls Tryd.prog 19 #[v] s.W fun e w'' => e = .returned r ∧ ∃ s' : AtS w a b A B ca cb gt bt, w'' = s'.W) := fun s v r hv => by
                rcases hv with ⟨rfl, rfl⟩ | ⟨rfl, rfl⟩ | ⟨rfl, rfl⟩
                · exact (right_any a A ca s.W s.ok.two.now.env (by omega) s.ok.two.ta).mono fun e w' h9 => ⟨by rw [h9.1, hra], ⟨w', s.ok.later h9.2⟩, rfl⟩
                · exact (right_any b B cb s.W s.ok.two.now.env (by omega) s.ok.two.tb).mono fun e w' h9 => ⟨by rw [h9.1, hrb], ⟨w', s.ok.later h9.2⟩, rfl⟩
                · exact (right_any (.node 13 ⟨#[]⟩ 0 [a, b]) (some ⟨gt, 0, none⟩) 2 s.W s.ok.two.now.env (by simp only [T.size, sizes]; omega) s.ok.tt).mono fun e w' h9 => ⟨by rw [h9.1, hrt], ⟨w', s.ok.later h9.2⟩, rfl⟩
              have hmx : ∃ dm : Nat, dm = max da db ∧ dm ≤ 1048576 := ⟨_, rfl, by omega⟩
              obtain ⟨dm, hdm, hdml⟩ := hmx
              rw [← hdm] at hdt
              have hw3 : IntKind.i64.wrap (1 + (dm : Int)) = 1 + (dm : Int) := wrap_small _ (by omega) (by omega)
              have KD : Hid (∀ (s : AtS w a b A B ca cb gt bt) (v r : Value), ((v = .agg #[.int .i64 a.kind, .string a.name, .int .i64 a.num, .slice A a.kids.length ca] ∧ r = .int .i64 (da : Nat)) ∨ (v = .agg #[.int .i64 b.kind, .string b.name, .int .i64 b.num, .slice B b.kids.length cb] ∧ r = .int .i64 (db : Nat)) ∨ (v = .agg #[.int .i64 13, .string ⟨#[]⟩, .int .i64 0, .slice (some ⟨gt, 0, none⟩) 2 2] ∧ r = .int .i64 (1 + (dm : Int)))) → Calls Tryd.prog 17 #[v] s.W fun e w'' => e = .returned r ∧ ∃ s' : AtS w a b A B ca cb gt bt, w'' = s'.W) := fun s v r hv => by
                rcases hv with ⟨rfl, rfl⟩ | ⟨rfl, rfl⟩ | ⟨rfl, rfl⟩
                · exact (depth_any a A ca s.W (by omega) s.ok.two.ta).mono fun e w' h9 => ⟨by rw [h9.1, hda], ⟨w', s.ok.later h9.2⟩, rfl⟩
                · exact (depth_any b B cb s.W (by omega) s.ok.two.tb).mono fun e w' h9 => ⟨by rw [h9.1, hdb], ⟨w', s.ok.later h9.2⟩, rfl⟩
                · exact (depth_any (.node 13 ⟨#[]⟩ 0 [a, b]) (some ⟨gt, 0, none⟩) 2 s.W (by simp only [T.size, sizes]; omega) s.ok.tt).mono fun e w' h9 => ⟨by rw [h9.1, hdt]; push_cast; rfl, ⟨w', s.ok.later h9.2⟩, rfl⟩
              replace hsa := Lib.hid hsa
              replace hsb := Lib.hid hsb
              replace hda := Lib.hid hda
              replace hdb := Lib.hid hdb
              replace hra := Lib.hid hra
              replace hrb := Lib.hid hrb
              replace hrt := Lib.hid hrt
              replace hst := Lib.hid hst
              replace hdt := Lib.hid hdt
              have hmx1 : max (da : Int) (db : Int) = (dm : Int) := by omega
              have hmx2 : max da db = dm := hdm.symm
              replace hdm := Lib.hid hdm
              haveI : Nonempty (AtS w a b A B ca cb gt bt) := ⟨⟨V9, hY.out⟩⟩
              go_wp2_with fail
              cases rt with
              | false =>
                clear hrr
                refine wp_region_quiet_in (S := (AtS w a b A B ca cb gt bt)) (fun s => s.W) (by kernel_rfl) (by kernel_rfl) ⟨⟨V9.drew, hY.out.later (Below.refl _ V9).drew⟩, rfl⟩ ?_
                repeat (go_big_quiet_step (first | (go_at_call 15; exact KS.out _ _ _ (by first | exact .inl ⟨rfl, rfl⟩ | exact .inr (.inl ⟨rfl, rfl⟩) | exact .inr (.inr ⟨rfl, rfl⟩))) | (go_at_call 17; exact KD.out _ _ _ (by first | exact .inl ⟨rfl, rfl⟩ | exact .inr (.inl ⟨rfl, rfl⟩) | exact .inr (.inr ⟨rfl, rfl⟩))) | (go_at_call 19; exact KR.out _ _ _ (by first | exact .inl ⟨rfl, rfl⟩ | exact .inr (.inl ⟨rfl, rfl⟩) | exact .inr (.inr ⟨rfl, rfl⟩)))))
                refine wpQuiet_nil ?_
                rintro _ ⟨s, rfl⟩
                go_wp2
                go_ret
                exact ⟨rfl, s.ok.two.now.below⟩
              | true =>
                obtain ⟨rfl, rfl⟩ := hrr rfl
                clear hrr
                refine wp_region_quiet_in (S := (AtS w a b A B ca cb gt bt)) (fun s => s.W) (by kernel_rfl) (by kernel_rfl) ⟨⟨V9.drew, hY.out.later (Below.refl _ V9).drew⟩, rfl⟩ ?_
                repeat (go_big_quiet_step (first | (go_at_call 15; exact KS.out _ _ _ (by first | exact .inl ⟨rfl, rfl⟩ | exact .inr (.inl ⟨rfl, rfl⟩) | exact .inr (.inr ⟨rfl, rfl⟩))) | (go_at_call 17; exact KD.out _ _ _ (by first | exact .inl ⟨rfl, rfl⟩ | exact .inr (.inl ⟨rfl, rfl⟩) | exact .inr (.inr ⟨rfl, rfl⟩))) | (go_at_call 19; exact KR.out _ _ _ (by first | exact .inl ⟨rfl, rfl⟩ | exact .inr (.inl ⟨rfl, rfl⟩) | exact .inr (.inr ⟨rfl, rfl⟩)))))
                refine wpQuiet_nil ?_
                rintro _ ⟨s, rfl⟩
                go_wp2
                go_ret
                exact ⟨rfl, s.ok.two.now.below⟩
end Go.Proofs.YtkmeolbombhlfaaDoor
