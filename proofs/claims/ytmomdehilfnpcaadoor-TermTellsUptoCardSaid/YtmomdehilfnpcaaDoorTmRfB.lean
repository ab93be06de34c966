/-
  The reference's Free of a term. Conditions: the term can be read; its size is at most 4194304.
-/
import Derived.Test.YtmomdehilfnpcaaDoorTmRfA
import Derived.Deep.QuietTactic
import Derived.BigQuiet
namespace Go.Proofs.YtmomdehilfnpcaaDoor
open Go.RowKit Go.Shelf Go.Tm Go.Maps
attribute [local go_sem] Oper.semAt_some

theorem upto_two {t : Go.Tm.T} (h : t.kind = 2) (s : ByteArray) : s ∈ [t.name] ↔ upto t 0 [] false s := by
  unfold upto
  constructor
  · intro h1; exact .inl ⟨h, (List.mem_singleton.1 h1).symm⟩
  · rintro (⟨_, h1⟩ | ⟨j, h1, _⟩ | ⟨h1, _⟩)
    · exact List.mem_singleton.2 h1.symm
    · exact absurd h1 (Nat.not_lt_zero j)
    · cases h1
theorem upto_no {t : Go.Tm.T} (h : ¬ t.kind = 2) (s : ByteArray) : s ∈ ([] : List ByteArray) ↔ upto t 0 [] false s := by
  unfold upto
  constructor
  · intro h1; cases h1
  · rintro (⟨h1, _⟩ | ⟨j, h1, _⟩ | ⟨h1, _⟩)
    · exact absurd h1 h
    · exact absurd h1 (Nat.not_lt_zero j)
    · cases h1
theorem own_grown1 (W w : World) (s : ByteArray) (base : Nat) (hb : base ≤ W.heap.size) : (W.alloc (.cells (#[.string s] ++ Builtin.zeroCells #[.string ⟨#[]⟩] (grownCap w 1 0 9 - 1)) 9)).drew.ownsRow base 9 1 (.slice (some ⟨W.heap.size, 0, none⟩) 1 (grownCap w 1 0 9)) 1 [.string s] := by
  have hge := grownCap_ge w 1 0 9
  have hcm : grownCap w 1 0 9 ≤ maxLen := grownCap_le_maxLen w 1 0 9 (by decide)
  refine ⟨rfl, .inr ⟨W.heap.size, _, _, rfl, hb, heap_alloc_new W _, hge, hcm, ?_, ?_⟩⟩
  · simp only [Array.size_append, List.size_toArray, size_zeroCells]
    simp; omega
  · simp
theorem FS.next {V W : World} {t : Go.Tm.T} {k : Nat} {L : List ByteArray} {b : Bool} {v : Value} {M : List ByteArray} (h : FS V W t k L b v M) (hk : k < t.kids.length) (hL : ∀ x, x ∈ L ↔ (t.kids.getD k default).free x = true) (hb : b = (bindK t.kind && decide (k + 1 = t.kids.length))) : FS V W t (k + 1) [] false v M :=
  ⟨h.below, h.own, h.srt, fun s => (h.mem s).trans (upto_next hk hL hb)⟩
theorem FS.none {V W : World} {t : Go.Tm.T} {k : Nat} {v : Value} {M : List ByteArray} (h : FS V W t k [] false v M) (b : Bool) : FS V W t k [] b v M :=
  ⟨h.below, h.own, h.srt, fun s => (h.mem s).trans ⟨fun g => g.imp id (fun g => g.imp id (fun g => by cases g.1)), fun g => g.imp id (fun g => g.imp id (fun g => by cases g.1))⟩⟩
theorem FS.fits {V W : World} {t : Go.Tm.T} {k : Nat} {L : List ByteArray} {b : Bool} {v : Value} {M : List ByteArray} (h : FS V W t k L b v M) (hz : t.size ≤ 4194304) (hk : k < t.kids.length) (hL : ∀ x ∈ L, (t.kids.getD k default).free x = true) (hb : b = (bindK t.kind && decide (k + 1 = t.kids.length))) : M.length ≤ 4294967296 := by
  have := srt_len h.srt (fun s hs => upto_free ((h.mem s).1 hs) hk hL hb)
  omega

def FreeStmt (n : Nat) : Prop := ∀ (t : Go.Tm.T) (A : Option Addr) (c : Nat) (w : World), t.size ≤ n → t.size ≤ 4194304 → TmV w (· < w.heap.size) t A c →
    Calls Tryd.prog 20 #[tmV t A c] w fun e w' => ∃ v, e = .returned v ∧ FreeV t w.heap.size v w' ∧ Below w.heap.size w w'

set_option maxRecDepth 100000 in
set_option maxHeartbeats 8000000 in
theorem reffree_step (n : Nat) (IH0 : FreeStmt n) : FreeStmt (n + 1) := fun t A c w hn hz hT => by
    have IH := Lib.hid IH0
    unfold FreeStmt at IH
    clear IH0
    have hks := kids_lt t
    have hLs := len_sizes t.kids
    have hnsz := Lib.hid hT.nsz
    replace hT := Lib.hid hT
    unfold tmV
    obtain ⟨i0, hi, hi2⟩ := Option.map_eq_some_iff.1 info_strA
    obtain ⟨hz0, hz1, hz2⟩ : i0.zero = some (.string ⟨#[]⟩) ∧ i0.size = 1 ∧ i0.bytes = 16 := by
      injection hi2 with h1 h2; injection h2 with h2 h3; exact ⟨h1, h2, h3⟩
    replace hi := Lib.hid hi
    replace hz0 := Lib.hid hz0
    replace hz1 := Lib.hid hz1
    replace hz2 := Lib.hid hz2
    clear hi2
    obtain ⟨L, hL⟩ : ∃ L, t.kids.length = L := ⟨_, rfl⟩
    rw [hL] at hLs
    rw [hL]
    obtain ⟨V, hV⟩ : ∃ V, w.alloc (.cells #[.int .i64 t.kind, .string t.name, .int .i64 t.num, .slice A L c] 28) = V := ⟨_, rfl⟩
    have hbx : V.heap[w.heap.size]? = some (.cells #[.int .i64 t.kind, .string t.name, .int .i64 t.num, .slice A L c] 28 (0, 0)) := by rw [← hV]; exact World.alloc_heap_new _ _
    have hbV : Below w.heap.size w V := by rw [← hV]; exact later_alloc _ _
    have hTV := Lib.hid (hT.out.later hbV)
    have hVz := World.lt_of_get hbx
    have i0' := cell_of_row V w.heap.size 0 _ _ _ hbx
    have i1 := cell_of_row V w.heap.size 1 _ _ _ hbx
    replace hbx := Lib.hid hbx
    replace hbV := Lib.hid hbV
    replace hL := Lib.hid hL
    replace hV := Lib.hid hV
    have hkb := Lib.hid (fun (W : World) => refbinder_any t.kind t.num t.name (.slice A L c) W)
    by_cases hk2 : t.kind = 2
    case' pos =>
      have q2 : (t.kind == 2) = true := by simpa using hk2
      have hVz2 : V.heap.size = w.heap.size + 1 := by rw [← hV.out]; simp
      have hS0 : Hid (FS V (((V.alloc (.cells #[.string t.name] 9)).alloc (.cells (#[.string t.name] ++ Builtin.zeroCells #[.string ⟨#[]⟩] ((Question.appendCap 1 0 9).cut (w.tape w.drawn (Question.appendCap 1 0 9)) - 1)) 9)).drew) t 0 [] false (.slice (some ⟨w.heap.size + 1 + 1, 0, none⟩) 1 ((Question.appendCap 1 0 9).cut (w.tape w.drawn (Question.appendCap 1 0 9)))) [t.name]) := by
        have h := own_grown1 (V.alloc (.cells #[.string t.name] 9)) w t.name V.heap.size (by simp)
        rw [show (V.alloc (.cells #[.string t.name] 9)).heap.size = w.heap.size + 1 + 1 by simp [hVz2]] at h
        exact ⟨(((Below.refl _ V).alloc (Nat.le_refl _) _).alloc (by simp) _).drew, h, List.pairwise_singleton _ _, upto_two hk2⟩
      replace hVz2 := Lib.hid hVz2
      replace hk2 := Lib.hid hk2
      go_enter Tryd.func20, Tryd.ntmps20
      go_wp2_with fail
      try rw [hV.out]
      go_wp2_with fail
      clear i0' i1 q2
    case' neg =>
      have q2 : (t.kind == 2) = false := by simpa using hk2
      have hS0 : Hid (FS V V t 0 [] false (.slice none 0 0) []) := ⟨Below.refl _ _, World.ownsRow_nil _ _ _ _, List.Pairwise.nil, upto_no hk2⟩
      replace hk2 := Lib.hid hk2
      go_enter Tryd.func20, Tryd.ntmps20
      go_wp2_with fail
      try rw [hV.out]
      go_wp2_with fail
      clear i0' i1 q2
    all_goals
      go_loopw [3, 4] (fun v i wr => ∃ (k : Nat) (v' : Value) (M : List ByteArray), k ≤ L ∧ i = .int .i64 k ∧ v' = v ∧ Hid (FS V wr t k [] false v' M)) (fun _ i _ => L - (intOf i).toNat)
      case atStart => exact ⟨0, _, _, Nat.zero_le _, rfl, rfl, hS0.out⟩
      case round =>
        clear hS0
        obtain ⟨k, v, M, hk, rfl, rfl, hS⟩ := hrel
        have hb2 := (hS.out.below.block w.heap.size hVz).trans hbx.out
        have p3 := cell_of_row wr w.heap.size 3 _ _ _ hb2
        have hl := World.lt_of_get hb2
        replace hb2 := Lib.hid hb2
        by_cases hlt : k < L
        case neg =>
          obtain rfl : k = L := by omega
          have hfin : Hid (FreeV t w.heap.size v wr ∧ Below w.heap.size w wr) := by
            refine ⟨⟨M, own_mono hS.out.own (by omega), hS.out.srt, fun s => ?_⟩, hbV.out.trans (hS.out.below.mono (by omega))⟩
            have h1 := hS.out.mem s
            have h2 := upto_all t s false
            rw [hL.out] at h2
            exact h1.trans h2
          clear hS hlt hk
          go_wp2_with fail
          go_ret
          exact ⟨_, rfl, hfin.out⟩
        have hk9 : k < t.kids.length := by rw [hL.out]; exact hlt
        obtain ⟨kb, ko, rfl, hrow⟩ := (hTV.out.below hS.out.below).row.resolve_left (fun e => by rw [e] at hk9; exact absurd hk9 (Nat.not_lt_zero _))
        obtain ⟨A2, c2, hh, hv⟩ := node_tmv (hrow.get k hk9)
        have hsn := sizes_snoc t.kids k hk9
        have hle := sizes_take_le t.kids (k + 1)
        obtain ⟨u, hu⟩ : ∃ u, t.kids.getD k default = u := ⟨_, rfl⟩
        rw [hu] at hh hv hsn
        have hun : u.size ≤ n := by omega
        have huz : u.size ≤ 4194304 := by omega
        clear hrow hsn hle
        replace hu := Lib.hid hu
        have c0 := hh.kind
        have c1 := hh.name
        have c2' := hh.num
        have c3 := hh.kids
        replace hh := Lib.hid hh
        have kk := Lib.hid (IH.out u A2 c2 wr hun huz (hv.kept (fun b hb => by have := hS.out.below.size; omega) (fun _ _ => rfl)))
        clear hv
        unfold tmV at kk
        go_wp2_with fail
        refine kk.out.mono ?_
        rintro e w4 ⟨v4, rfl, hF4, hb4⟩
        obtain ⟨M4, ho4, hs4, hm4⟩ := hF4
        obtain ⟨A4, c4, rfl, hx4⟩ := txs_of_row ho4
        have hS4 := Lib.hid (hS.out.later hb4)
        have hb3 := (hb4.block w.heap.size hl).trans hb2.out
        have hML := srt_len hs4 (fun s hs => (hm4 s).1 hs)
        have p0 := cell_of_row w4 w.heap.size 0 _ _ _ hb3
        have p1 := cell_of_row w4 w.heap.size 1 _ _ _ hb3
        have p2 := cell_of_row w4 w.heap.size 2 _ _ _ hb3
        replace p3 := cell_of_row w4 w.heap.size 3 _ _ _ hb3
        have hl4 := World.lt_of_get hb3
        replace hb3 := Lib.hid hb3
        obtain ⟨n4, hn4⟩ : ∃ z, M4.length = z := ⟨_, rfl⟩
        rw [hn4] at hML ⊢
        have hn4z : n4 ≤ 4194304 := by omega
        clear hML c0 c1 c2' c3 kk hS hb2 hb4 ho4 hs4 hh
        replace hn4 := Lib.hid hn4
        replace hm4 := Lib.hid hm4
        replace hx4 := Lib.hid hx4
        go_wp2_with fail
        refine (hkb.out _).mono ?_
        rintro e w5 ⟨rfl, hb5⟩
        have hS5 := Lib.hid (hS4.out.later hb5)
        have hx5 := Lib.hid (hx4.out.later hb5)
        have hb6 := (hb5.block w.heap.size hl4).trans hb3.out
        replace p3 := cell_of_row w5 w.heap.size 3 _ _ _ hb6
        have hl5 := World.lt_of_get hb6
        replace hb6 := Lib.hid hb6
        clear p0 p1 p2 hS4 hx4 hb5 hb3
        have hw1 : IntKind.i64.wrap ((L : Int) - 1) = (L : Int) - 1 := Go.Proofs.YtmomdehilfnpcaaDoor.wrap_small _ (by omega) (by omega)
        cases hbb : binderB t.kind with
        | false =>
          have hbe : Hid (false = (bindK t.kind && decide (k + 1 = t.kids.length))) := by show _ = _; rw [bind_binder, hbb, hL.out]; rfl
          replace hbb := Lib.hid hbb
          go_wp2_with fail
          clear p3 hw1
          go_loopw [3, 7] (fun v i wr => ∃ (j : Nat) (v' : Value) (M : List ByteArray), j ≤ n4 ∧ i = .int .i64 j ∧ v' = v ∧ Hid (FS V wr t k (M4.take j) false v' M) ∧ Hid (Below w5.heap.size w5 wr)) (fun _ i _ => n4 - (intOf i).toNat)
          case atStart => exact ⟨0, _, _, Nat.zero_le _, rfl, rfl, by rw [List.take_zero]; exact hS5.out.none _, Below.refl _ _⟩
          case round =>
            obtain ⟨j, v, M, hj, rfl, rfl, hS, hB⟩ := hrel
            by_cases hjlt : j < n4
            case neg =>
              obtain rfl : j = n4 := by omega
              have hS9 : Hid (FS V wr t (k + 1) [] false v M) := by
                have h1 := hS.out
                rw [← hn4.out, List.take_length] at h1
                exact h1.next hk9 (by rw [hu.out]; exact hm4.out) hbe.out
              clear hS hS5 hx5 hB
              go_wp2_with fail
              go_roundw
              case rel => exact ⟨k + 1, _, _, by omega, by go_num, rfl, hS9⟩
              case measure => simp [intOf]; omega
            obtain ⟨xb, xo, rfl, hxb, hxc⟩ := (hx5.out.later hB.out) j (by rw [hn4.out]; exact hjlt)
            have hLk : Hid (M4.take (j + 1) = M4.take j ++ [M4.getD j ⟨#[]⟩]) := by
              show _ = _
              have h9 : j < M4.length := by rw [hn4.out]; exact hjlt
              rw [List.take_add_one, List.getElem?_eq_getElem h9, List.getD_eq_getElem?_getD, List.getElem?_eq_getElem h9]; rfl
            have hfits := hS.out.fits hz hk9 (fun x hx => by rw [hu.out]; exact (hm4.out x).1 (List.mem_of_mem_take hx)) hbe.out
            obtain ⟨x, hx⟩ : ∃ x, M4.getD j ⟨#[]⟩ = x := ⟨_, rfl⟩
            rw [hx] at hxc hLk
            replace hx := Lib.hid hx
            have ka := Lib.hid (fun (W : World) (h : Below wr.heap.size wr W) => refadd_any v M x V.heap.size W (Nat.le_trans hS.out.below.size h.size) hfits hS.out.srt (hS.out.later h).own)
            have hfa : Hid (∀ (W W' : World) (v' : Value), Below wr.heap.size wr W → AddPost V.heap.size M x W v' W' → ∃ M', FS V W' t k (M4.take (j + 1)) false v' M') := fun W W' v' h1 h2 => by
              rw [hLk.out]
              exact (hS.out.later h1).add (fun h => by cases h.1) h2
            go_wp2_with fail
            go_quiet (fail)
            go_wp2_with fail
            refine (ka.out _ (belowN (Below.refl _ wr) _)).mono ?_
            rintro e w7 ⟨v7, rfl, hp7⟩
            have hb7 := Lib.hid (hB.out.trans (((belowN (Below.refl _ wr) nq).trans (show Below wr.heap.size (wr.drewN nq) w7 from hp7.choose_spec.2.2.2)).mono hB.out.size))
            obtain ⟨M7, hS7⟩ := hfa.out _ _ _ (belowN (Below.refl _ wr) _) hp7
            replace hS7 := Lib.hid hS7
            clear hp7 hfa ka hS
            go_wp2_with fail
            go_roundw
            case rel => exact ⟨j + 1, _, _, by omega, by go_num, rfl, hS7, hb7⟩
            case measure => simp [intOf]; omega
        | true =>
          by_cases hlast : k + 1 = L
          · have q5 : ((k : Int) == (L : Int) - 1) = true := by rw [beq_iff_eq]; omega
            have hbe : Hid (true = (bindK t.kind && decide (k + 1 = t.kids.length))) := by show _ = _; rw [bind_binder, hbb, hL.out, decide_eq_true hlast]; rfl
            replace hbb := Lib.hid hbb
            replace hlast := Lib.hid hlast
            go_wp2_with fail
            clear p3 hw1 q5 hlast
            go_loopw [3, 7] (fun v i wr => ∃ (j : Nat) (v' : Value) (M : List ByteArray), j ≤ n4 ∧ i = .int .i64 j ∧ v' = v ∧ Hid (FS V wr t k (M4.take j) true v' M) ∧ Hid (Below w5.heap.size w5 wr)) (fun _ i _ => n4 - (intOf i).toNat)
            case atStart => exact ⟨0, _, _, Nat.zero_le _, rfl, rfl, by rw [List.take_zero]; exact hS5.out.none _, Below.refl _ _⟩
            case round =>
              obtain ⟨j, v, M, hj, rfl, rfl, hS, hB⟩ := hrel
              by_cases hjlt : j < n4
              case neg =>
                obtain rfl : j = n4 := by omega
                have hS9 : Hid (FS V wr t (k + 1) [] false v M) := by
                  have h1 := hS.out
                  rw [← hn4.out, List.take_length] at h1
                  exact h1.next hk9 (by rw [hu.out]; exact hm4.out) hbe.out
                clear hS hS5 hx5 hB
                go_wp2_with fail
                go_roundw
                case rel => exact ⟨k + 1, _, _, by omega, by go_num, rfl, hS9⟩
                case measure => simp [intOf]; omega
              obtain ⟨xb, xo, rfl, hxb, hxc⟩ := (hx5.out.later hB.out) j (by rw [hn4.out]; exact hjlt)
              have hLk : Hid (M4.take (j + 1) = M4.take j ++ [M4.getD j ⟨#[]⟩]) := by
                show _ = _
                have h9 : j < M4.length := by rw [hn4.out]; exact hjlt
                rw [List.take_add_one, List.getElem?_eq_getElem h9, List.getD_eq_getElem?_getD, List.getElem?_eq_getElem h9]; rfl
              have hfits := hS.out.fits hz hk9 (fun x hx => by rw [hu.out]; exact (hm4.out x).1 (List.mem_of_mem_take hx)) hbe.out
              obtain ⟨x, hx⟩ : ∃ x, M4.getD j ⟨#[]⟩ = x := ⟨_, rfl⟩
              rw [hx] at hxc hLk
              replace hx := Lib.hid hx
              have y1 := hB.out.block w.heap.size hl5 |>.trans hb6.out
              have y2 := cell_of_row wr w.heap.size 1 _ _ _ y1
              have y3 := World.lt_of_get y1
              replace y1 := Lib.hid y1
              cases hq : (x.toList == t.name.toList) with
              | false =>
                have hq1 : (x.toList != t.name.toList) = true := by unfold bne; rw [hq]; rfl
                have hne : Hid (¬ x = t.name) := fun h => by rw [h, beq_self_eq_true] at hq; cases hq
                have n2 : ¬ x.toList = t.name.toList := fun h => by rw [h, beq_self_eq_true] at hq; cases hq
                have ka := Lib.hid (fun (W : World) (h : Below wr.heap.size wr W) => refadd_any v M x V.heap.size W (Nat.le_trans hS.out.below.size h.size) hfits hS.out.srt (hS.out.later h).own)
                have hfa : Hid (∀ (W W' : World) (v' : Value), Below wr.heap.size wr W → AddPost V.heap.size M x W v' W' → ∃ M', FS V W' t k (M4.take (j + 1)) true v' M') := fun W W' v' h1 h2 => by
                  rw [hLk.out]
                  exact (hS.out.later h1).add (fun h => hne.out h.2) h2
                go_wp2_with fail
                go_quiet (fail)
                clear hq hq1 n2 y2
                go_wp2_with fail
                refine (ka.out _ (belowN (Below.refl _ wr) _)).mono ?_
                rintro e w7 ⟨v7, rfl, hp7⟩
                have hb7 := Lib.hid (hB.out.trans (((belowN (Below.refl _ wr) nq).trans (show Below wr.heap.size (wr.drewN nq) w7 from hp7.choose_spec.2.2.2)).mono hB.out.size))
                obtain ⟨M7, hS7⟩ := hfa.out _ _ _ (belowN (Below.refl _ wr) _) hp7
                replace hS7 := Lib.hid hS7
                clear hp7 hfa ka hS
                go_wp2_with fail
                go_roundw
                case rel => exact ⟨j + 1, _, _, by omega, by go_num, rfl, hS7, hb7⟩
                case measure => simp [intOf]; omega
              | true =>
                have hq1 : (x.toList != t.name.toList) = false := by unfold bne; rw [hq]; rfl
                have hS7 : Hid (FS V wr t k (M4.take (j + 1)) true v M) := by show FS _ _ _ _ _ _ _ _; rw [hLk.out]; exact hS.out.skip ⟨rfl, bytes_eq.1 hq⟩
                replace hS7 := Lib.hid (fun nq => hS7.out.later (belowN (Below.refl _ wr) nq))
                replace hB := Lib.hid (fun nq => hB.out.trans ((belowN (Below.refl _ wr) nq).mono hB.out.size))
                clear hS
                go_wp2_with fail
                go_quiet (fail)
                clear hq hq1 y2
                go_wp2_with fail
                go_roundw
                case rel => exact ⟨j + 1, _, _, by omega, by go_num, rfl, hS7.out _, hB.out _⟩
                case measure => simp [intOf]; omega
          · have q5 : ((k : Int) == (L : Int) - 1) = false := by rw [beq_eq_false_iff_ne]; omega
            have hbe : Hid (false = (bindK t.kind && decide (k + 1 = t.kids.length))) := by show _ = _; rw [bind_binder, hbb, hL.out, decide_eq_false hlast]; rfl
            replace hbb := Lib.hid hbb
            replace hlast := Lib.hid hlast
            go_wp2_with fail
            clear p3 hw1 q5 hlast
            go_loopw [3, 7] (fun v i wr => ∃ (j : Nat) (v' : Value) (M : List ByteArray), j ≤ n4 ∧ i = .int .i64 j ∧ v' = v ∧ Hid (FS V wr t k (M4.take j) false v' M) ∧ Hid (Below w5.heap.size w5 wr)) (fun _ i _ => n4 - (intOf i).toNat)
            case atStart => exact ⟨0, _, _, Nat.zero_le _, rfl, rfl, by rw [List.take_zero]; exact hS5.out.none _, Below.refl _ _⟩
            case round =>
              obtain ⟨j, v, M, hj, rfl, rfl, hS, hB⟩ := hrel
              by_cases hjlt : j < n4
              case neg =>
                obtain rfl : j = n4 := by omega
                have hS9 : Hid (FS V wr t (k + 1) [] false v M) := by
                  have h1 := hS.out
                  rw [← hn4.out, List.take_length] at h1
                  exact h1.next hk9 (by rw [hu.out]; exact hm4.out) hbe.out
                clear hS hS5 hx5 hB
                go_wp2_with fail
                go_roundw
                case rel => exact ⟨k + 1, _, _, by omega, by go_num, rfl, hS9⟩
                case measure => simp [intOf]; omega
              obtain ⟨xb, xo, rfl, hxb, hxc⟩ := (hx5.out.later hB.out) j (by rw [hn4.out]; exact hjlt)
              have hLk : Hid (M4.take (j + 1) = M4.take j ++ [M4.getD j ⟨#[]⟩]) := by
                show _ = _
                have h9 : j < M4.length := by rw [hn4.out]; exact hjlt
                rw [List.take_add_one, List.getElem?_eq_getElem h9, List.getD_eq_getElem?_getD, List.getElem?_eq_getElem h9]; rfl
              have hfits := hS.out.fits hz hk9 (fun x hx => by rw [hu.out]; exact (hm4.out x).1 (List.mem_of_mem_take hx)) hbe.out
              obtain ⟨x, hx⟩ : ∃ x, M4.getD j ⟨#[]⟩ = x := ⟨_, rfl⟩
              rw [hx] at hxc hLk
              replace hx := Lib.hid hx
              have ka := Lib.hid (fun (W : World) (h : Below wr.heap.size wr W) => refadd_any v M x V.heap.size W (Nat.le_trans hS.out.below.size h.size) hfits hS.out.srt (hS.out.later h).own)
              have hfa : Hid (∀ (W W' : World) (v' : Value), Below wr.heap.size wr W → AddPost V.heap.size M x W v' W' → ∃ M', FS V W' t k (M4.take (j + 1)) false v' M') := fun W W' v' h1 h2 => by
                rw [hLk.out]
                exact (hS.out.later h1).add (fun h => by cases h.1) h2
              go_wp2_with fail
              go_quiet (fail)
              go_wp2_with fail
              refine (ka.out _ (belowN (Below.refl _ wr) _)).mono ?_
              rintro e w7 ⟨v7, rfl, hp7⟩
              have hb7 := Lib.hid (hB.out.trans (((belowN (Below.refl _ wr) nq).trans (show Below wr.heap.size (wr.drewN nq) w7 from hp7.choose_spec.2.2.2)).mono hB.out.size))
              obtain ⟨M7, hS7⟩ := hfa.out _ _ _ (belowN (Below.refl _ wr) _) hp7
              replace hS7 := Lib.hid hS7
              clear hp7 hfa ka hS
              go_wp2_with fail
              go_roundw
              case rel => exact ⟨j + 1, _, _, by omega, by go_num, rfl, hS7, hb7⟩
              case measure => simp [intOf]; omega
theorem reffree_any (n : Nat) : FreeStmt n := by
  induction n with
  | zero => exact fun t _ _ _ h _ _ => by have := kids_lt t; omega
  | succ n ih => exact reffree_step n ih
end Go.Proofs.YtmomdehilfnpcaaDoor
