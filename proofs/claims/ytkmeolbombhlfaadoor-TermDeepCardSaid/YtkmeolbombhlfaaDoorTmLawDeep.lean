/-
  TermDeep's walk: true of whatever two numbers. Condition: the tables lie as laid.
-/
import Derived.Test.YtkmeolbombhlfaaDoorTmDeepM
import Derived.Sort.Walk0
namespace Go.Proofs.YtkmeolbombhlfaaDoor
open Go.RowKit Go.Shelf Go.Tm Go.Maps
attribute [local go_sem] Oper.semAt_some

theorem D1.later {w W W' : World} {b k : Nat} {A : Option Addr} {c : Nat} (h : D1 w W b k A c) (hb : Below W.heap.size W W') : D1 w W' b k A c :=
  ⟨h.now.later hb, h.t.kept (fun _ hx => ⟨hx.1, Nat.lt_of_lt_of_le hx.2 hb.size⟩) (fun x hx => hb.block x hx.2), (hb.block _ (World.lt_of_get h.box)).trans h.box, h.lo, h.env0⟩
theorem D1.first {w W : World} (h : Now w W) (hE : Env w) : D1 w (W.alloc (.cells #[.int .i64 1, .string ⟨#[]⟩, .int .i64 1, .slice none 0 0] 24)) W.heap.size 0 none 0 :=
  ⟨h.later (later_alloc _ _), TmV.leaf _ _ (by decide), World.alloc_heap_new _ _, h.below.size, hE⟩

/-- the second loop and the third -/
structure D2 (w W : World) (b6 b8 k6 k : Nat) (A6 : Option Addr) (c6 : Nat) (A : Option Addr) (c : Nat) : Prop where
  now : Now w W
  t6 : TmV W (fun x => x ≠ b8 ∧ x < W.heap.size) (raiseT k6) A6 c6
  box6 : W.heap[b6]? = some (boxC (raiseT k6) A6 c6)
  t8 : TmV W (fun x => x ≠ b8 ∧ x < W.heap.size) (seqT k) A c
  box8 : W.heap[b8]? = some (boxC (seqT k) A c)
  lo : w.heap.size ≤ b8
  ne : b6 ≠ b8
  env0 : Env w
theorem D2.later {w W W' : World} {b6 b8 k6 k : Nat} {A6 : Option Addr} {c6 : Nat} {A : Option Addr} {c : Nat} (h : D2 w W b6 b8 k6 k A6 c6 A c) (hb : Below W.heap.size W W') : D2 w W' b6 b8 k6 k A6 c6 A c :=
  ⟨h.now.later hb, h.t6.kept (fun _ hx => ⟨hx.1, Nat.lt_of_lt_of_le hx.2 hb.size⟩) (fun x hx => hb.block x hx.2), (hb.block _ (World.lt_of_get h.box6)).trans h.box6,
    h.t8.kept (fun _ hx => ⟨hx.1, Nat.lt_of_lt_of_le hx.2 hb.size⟩) (fun x hx => hb.block x hx.2), (hb.block _ (World.lt_of_get h.box8)).trans h.box8, h.lo, h.ne, h.env0⟩
theorem D2.first {w W : World} {b k : Nat} {A : Option Addr} {c : Nat} (h : D1 w W b k A c) : D2 w (W.alloc (.cells #[.int .i64 1, .string ⟨#[]⟩, .int .i64 0, .slice none 0 0] 24)) b W.heap.size k 0 A c none 0 :=
  have hl := World.lt_of_get h.box
  ⟨h.now.later (later_alloc _ _), h.t.kept (fun _ hx => ⟨by have := hx.2; omega, by have := hx.2; simp; omega⟩) (fun x hx => (later_alloc W _).block x hx.2), ((later_alloc W _).block _ hl).trans h.box,
    TmV.leaf _ _ (by decide), World.alloc_heap_new _ _, h.now.below.size, by omega, h.env0⟩
theorem D2.step {w W W' : World} {b6 b8 k6 k g : Nat} {A6 : Option Addr} {c6 : Nat} {A : Option Addr} {c : Nat} (h : D2 w W b6 b8 k6 k A6 c6 A c) (hb : Below W.heap.size W W')
    (ht : TmV W' (fun x => (x ≠ b8 ∧ x < W.heap.size) ∨ (W.heap.size ≤ x ∧ x < W'.heap.size)) (.node 13 ⟨#[]⟩ 0 [seqT k, seqT k]) (some ⟨g, 0, none⟩) 2) :
    D2 w (set4 W' b8 (.int .i64 13) (.string ⟨#[]⟩) (.int .i64 0) (.slice (some ⟨g, 0, none⟩) 2 2)) b6 b8 k6 (k + 1) A6 c6 (some ⟨g, 0, none⟩) 2 := by
  have h1 := h.later hb
  have hl := World.lt_of_get h.box8
  have hB : Below w.heap.size w (set4 W' b8 (.int .i64 13) (.string ⟨#[]⟩) (.int .i64 0) (.slice (some ⟨g, 0, none⟩) 2 2)) := set4_below h1.now.below h.lo
  refine ⟨⟨hB, h.env0.below h.env0.size hB⟩, h1.t6.kept (fun _ hx => ⟨hx.1, by rw [set4_size]; exact hx.2⟩) (fun _ hx => set4_other hx.1), (set4_other h.ne).trans h1.box6, ?_, set4_same h1.box8, h.lo, h.ne, h.env0⟩
  exact ht.kept (fun _ hx => ⟨by rcases hx with hx | hx <;> omega, by rw [set4_size]; have := hb.size; rcases hx with hx | hx <;> omega⟩) (fun _ hx => set4_other (by rcases hx with hx | hx <;> omega))

/-- such a world -/
structure AtD (w : World) (b6 b8 k6 k : Nat) (A6 : Option Addr) (c6 : Nat) (A : Option Addr) (c : Nat) where
  W : World
  ok : D2 w W b6 b8 k6 k A6 c6 A c

set_option maxRecDepth 100000 in
set_option maxHeartbeats 4000000 in
theorem termDeep_any (a m : Int) (w : World) (hE : Env w) (ha : 0 ≤ a ∧ a < 256) (hm : 0 ≤ m ∧ m < 256) :
    Calls Tryd.prog 7 #[.int .u8 a, .int .u8 m] w fun e w' => e = .returned (.bool true) ∧ Below w.heap.size w w' := by
  have hX := Lib.hid (Now.new hE)
  obtain ⟨N, hN, hN1, hN2⟩ : ∃ N : Nat, 194 + a % 12 = (N : Int) ∧ 194 ≤ N ∧ N < 206 := ⟨(194 + a % 12).toNat, by omega, by omega, by omega⟩
  obtain ⟨M, hM, hM1⟩ : ∃ M : Nat, m % 2 = (M : Int) ∧ M < 2 := ⟨(m % 2).toNat, by omega, by omega⟩
  replace hE := Lib.hid hE
  go_enter Tryd.func7, Tryd.ntmps7
  go_wp2_with fail
  refine (examples_any _ hX.out.env).mono ?_
  rintro e w1 ⟨rfl, hb9⟩
  replace hX := Lib.hid (hX.out.later hb9)
  clear hb9
  have k := Lib.hid (num_any 1 w1)
  go_wp2_with fail
  refine k.out.mono ?_
  rintro e w2 ⟨rfl, hb9⟩
  replace hX := Lib.hid (hX.out.later hb9)
  clear hb9 k
  have hD := Lib.hid (D1.first hX.out hE.out)
  go_wp2_with fail
  go_loopw [7] (fun i wr => ∃ (k : Nat) (A : Option Addr) (c : Nat), k ≤ N ∧ i = .int .i64 k ∧ Hid (D1 w wr w2.heap.size k A c)) (fun i _ => N - (intOf i).toNat)
  case atStart => exact ⟨0, none, 0, Nat.zero_le _, rfl, hD.out⟩
  case round =>
    clear hD hX
    obtain ⟨k, A, c, hk, rfl, hD⟩ := hrel
    obtain ⟨b, hb⟩ : ∃ b, w2.heap.size = b := ⟨_, rfl⟩
    rw [hb] at hD ⊢
    clear hb
    by_cases hlt : k < N
    · obtain ⟨t, ht⟩ : ∃ t, raiseT k = t := ⟨_, rfl⟩
      have hbx := hD.out.box
      have hst := Lib.hid hD.out.step
      rw [ht] at hbx hst
      have p0 := cell_of_row wr b 0 _ _ _ hbx
      have p1 := cell_of_row wr b 1 _ _ _ hbx
      have p2 := cell_of_row wr b 2 _ _ _ hbx
      have p3 := cell_of_row wr b 3 _ _ _ hbx
      have f0 := frozen_of_row hbx 0
      have f1 := frozen_of_row hbx 1
      have f2 := frozen_of_row hbx 2
      have f3 := frozen_of_row hbx 3
      have hl := World.lt_of_get hbx
      replace hbx := Lib.hid hbx
      replace ht := Lib.hid ht
      go_wp2_with fail
      go_roundw
      case rel => exact ⟨k + 1, _, _, by omega, by go_num, hst.out⟩
      case measure => simp [intOf]; omega
    · obtain rfl : k = N := by omega
      replace hX := Lib.hid hD.out.now
      clear hlt hk
      have k := Lib.hid (num_any 0 wr)
      go_wp2_with fail
      refine k.out.mono ?_
      rintro e w3 ⟨rfl, hb9⟩
      replace hD := Lib.hid (D2.first (hD.out.later hb9))
      clear hb9 k hX
      go_wp2_with fail
      go_loopw [9] (fun i wr => ∃ (k' : Nat) (A8 : Option Addr) (c8 : Nat), k' ≤ 12 ∧ i = .int .i64 k' ∧ Hid (D2 w wr b w3.heap.size k k' A c A8 c8)) (fun i _ => 12 - (intOf i).toNat)
      case atStart => exact ⟨0, none, 0, Nat.zero_le _, rfl, hD.out⟩
      case round =>
        clear hD
        obtain ⟨k', A8, c8, hk, rfl, hD⟩ := hrel
        obtain ⟨b8, hb8⟩ : ∃ b, w3.heap.size = b := ⟨_, rfl⟩
        rw [hb8] at hD ⊢
        clear hb8
        by_cases hlt : k' < 12
        · obtain ⟨t, ht⟩ : ∃ t, seqT k' = t := ⟨_, rfl⟩
          have hbx := hD.out.box8
          have h8 := hD.out.t8
          have hst := Lib.hid (fun W' g => D2.step (W' := W') (g := g) hD.out)
          rw [ht] at hbx hst h8
          have p0 := cell_of_row wr b8 0 _ _ _ hbx
          have p1 := cell_of_row wr b8 1 _ _ _ hbx
          have p2 := cell_of_row wr b8 2 _ _ _ hbx
          have p3 := cell_of_row wr b8 3 _ _ _ hbx
          have hl := World.lt_of_get hbx
          replace hbx := Lib.hid hbx
          replace ht := Lib.hid ht
          have k9 := Lib.hid (two_p (fun x => x ≠ b8 ∧ x < wr.heap.size) 13 ⟨#[]⟩ t t A8 A8 c8 c8 wr (by decide) (fun _ h => h.2) h8 h8)
          clear h8
          go_wp2_with fail
          refine k9.out.mono ?_
          rintro e w4 ⟨g, rfl, hb9, hT⟩
          have hb8 := (hb9.block b8 hl).trans hbx.out
          have f0 := frozen_of_row hb8 0
          have f1 := frozen_of_row hb8 1
          have f2 := frozen_of_row hb8 2
          have f3 := frozen_of_row hb8 3
          have p0 := cell_of_row w4 b8 0 _ _ _ hb8
          have p1 := cell_of_row w4 b8 1 _ _ _ hb8
          have p2 := cell_of_row w4 b8 2 _ _ _ hb8
          have p3 := cell_of_row w4 b8 3 _ _ _ hb8
          have hl9 := World.lt_of_get hb8
          replace hst := Lib.hid (hst.out w4 g hb9 hT)
          clear hb9 hb8 hT k9 hbx
          go_wp2_with fail
          go_roundw
          case rel => exact ⟨k' + 1, _, _, by omega, by go_num, hst.out⟩
          case measure => simp [intOf]; omega
        · obtain rfl : k' = 12 := by omega
          clear hlt hk
          rw [show ((12 : Nat) : Int) = 12 from rfl]
          go_wp2_with fail
          go_loopw [10] (fun i wr => ∃ (k' : Nat) (A8 : Option Addr) (c8 : Nat), k' ≤ M ∧ i = .int .i64 k' ∧ Hid (D2 w wr b b8 k (12 + k') A c A8 c8)) (fun i _ => M - (intOf i).toNat)
          case atStart => exact ⟨0, A8, c8, Nat.zero_le _, rfl, hD.out⟩
          case round =>
            clear hD A8 c8
            obtain ⟨k', A8, c8, hk, rfl, hD⟩ := hrel
            by_cases hlt : k' < M
            · obtain ⟨t, ht⟩ : ∃ t, seqT (12 + k') = t := ⟨_, rfl⟩
              have hbx := hD.out.box8
              have h8 := hD.out.t8
              have hst := Lib.hid (fun W' g => D2.step (W' := W') (g := g) hD.out)
              rw [ht] at hbx hst h8
              have p0 := cell_of_row wr b8 0 _ _ _ hbx
              have p1 := cell_of_row wr b8 1 _ _ _ hbx
              have p2 := cell_of_row wr b8 2 _ _ _ hbx
              have p3 := cell_of_row wr b8 3 _ _ _ hbx
              have hl := World.lt_of_get hbx
              replace hbx := Lib.hid hbx
              replace ht := Lib.hid ht
              have k9 := Lib.hid (two_p (fun x => x ≠ b8 ∧ x < wr.heap.size) 13 ⟨#[]⟩ t t A8 A8 c8 c8 wr (by decide) (fun _ h => h.2) h8 h8)
              clear h8
              go_wp2_with fail
              refine k9.out.mono ?_
              rintro e w4 ⟨g, rfl, hb9, hT⟩
              have hb8 := (hb9.block b8 hl).trans hbx.out
              have f0 := frozen_of_row hb8 0
              have f1 := frozen_of_row hb8 1
              have f2 := frozen_of_row hb8 2
              have f3 := frozen_of_row hb8 3
              have p0 := cell_of_row w4 b8 0 _ _ _ hb8
              have p1 := cell_of_row w4 b8 1 _ _ _ hb8
              have p2 := cell_of_row w4 b8 2 _ _ _ hb8
              have p3 := cell_of_row w4 b8 3 _ _ _ hb8
              have hl9 := World.lt_of_get hb8
              replace hst := Lib.hid (hst.out w4 g hb9 hT)
              clear hb9 hb8 hT k9 hbx
              go_wp2_with fail
              go_roundw
              case rel => exact ⟨k' + 1, _, _, by omega, by go_num, hst.out⟩
              case measure => simp [intOf]; omega
            · obtain rfl : k' = M := by omega
              clear hlt hk
              obtain ⟨j, hj⟩ : ∃ j, 12 + k' = j := ⟨_, rfl⟩
              rw [hj] at hD
              obtain ⟨t6, ht6⟩ : ∃ t, raiseT k = t := ⟨_, rfl⟩
              obtain ⟨t8, ht8⟩ : ∃ t, seqT j = t := ⟨_, rfl⟩
              have p0 : ∀ s : AtD w b b8 k j A c A8 c8, s.W.cell? ⟨b, 0, none⟩ = some (.int .i64 t6.kind) := fun s => by rw [← ht6]; exact cell_of_row s.W b 0 _ _ _ s.ok.box6
              have p1 : ∀ s : AtD w b b8 k j A c A8 c8, s.W.cell? ⟨b, 1, none⟩ = some (.string t6.name) := fun s => by rw [← ht6]; exact cell_of_row s.W b 1 _ _ _ s.ok.box6
              have p2 : ∀ s : AtD w b b8 k j A c A8 c8, s.W.cell? ⟨b, 2, none⟩ = some (.int .i64 t6.num) := fun s => by rw [← ht6]; exact cell_of_row s.W b 2 _ _ _ s.ok.box6
              have p3 : ∀ s : AtD w b b8 k j A c A8 c8, s.W.cell? ⟨b, 3, none⟩ = some (.slice A t6.kids.length c) := fun s => by rw [← ht6]; exact cell_of_row s.W b 3 _ _ _ s.ok.box6
              have q0 : ∀ s : AtD w b b8 k j A c A8 c8, s.W.cell? ⟨b8, 0, none⟩ = some (.int .i64 t8.kind) := fun s => by rw [← ht8]; exact cell_of_row s.W b8 0 _ _ _ s.ok.box8
              have q1 : ∀ s : AtD w b b8 k j A c A8 c8, s.W.cell? ⟨b8, 1, none⟩ = some (.string t8.name) := fun s => by rw [← ht8]; exact cell_of_row s.W b8 1 _ _ _ s.ok.box8
              have q2 : ∀ s : AtD w b b8 k j A c A8 c8, s.W.cell? ⟨b8, 2, none⟩ = some (.int .i64 t8.num) := fun s => by rw [← ht8]; exact cell_of_row s.W b8 2 _ _ _ s.ok.box8
              have q3 : ∀ s : AtD w b b8 k j A c A8 c8, s.W.cell? ⟨b8, 3, none⟩ = some (.slice A8 t8.kids.length c8) := fun s => by rw [← ht8]; exact cell_of_row s.W b8 3 _ _ _ s.ok.box8
              have v6 : ∀ s : AtD w b b8 k j A c A8 c8, TmV s.W (· < s.W.heap.size) t6 A c := fun s => by rw [← ht6]; exact s.ok.t6.kept (fun _ hx => hx.2) (fun _ _ => rfl)
              have v8 : ∀ s : AtD w b b8 k j A c A8 c8, TmV s.W (· < s.W.heap.size) t8 A8 c8 := fun s => by rw [← ht8]; exact s.ok.t8.kept (fun _ hx => hx.2) (fun _ _ => rfl)
              obtain ⟨K5, hK5, hK6⟩ : ∃ K : Nat, 195 + a % 12 = (K : Int) ∧ K = k + 1 := ⟨k + 1, by omega, rfl⟩
              have s6 : t6.size = K5 := by rw [← ht6, raise_size, hK6]
              have d6 : t6.depth = K5 := by rw [← ht6, raise_depth, hK6]
              have r6 : rightT t6 = decide (K5 ≤ 200) := by rw [← ht6, raise_right k (by omega), hK6]
              obtain ⟨rb, hrb⟩ : ∃ rb, decide (K5 ≤ 200) = rb := ⟨_, rfl⟩
              obtain ⟨rs, n8, hs8, hn8, hm8, s8, r8⟩ : ∃ (rs : Bool) (n8 : Nat), decide (n8 ≤ 10000) = rs ∧ n8 ≤ 16383 ∧ (m % 2 = 0 ↔ rs = true) ∧ t8.size = n8 ∧ rightT t8 = rs := by
                have h12 : k' = 0 ∨ k' = 1 := by omega
                rcases h12 with rfl | rfl
                · refine ⟨true, 8191, by decide, by decide, ⟨fun _ => rfl, fun _ => by omega⟩, ?_, ?_⟩
                  · rw [← ht8, ← hj]; exact seq12
                  · rw [← ht8, ← hj, seq_right 12 (by decide), seq12]; decide
                · refine ⟨false, 16383, by decide, by decide, ⟨fun _ => by omega, fun h => by cases h⟩, ?_, ?_⟩
                  · rw [← ht8, ← hj]; exact seq13
                  · rw [← ht8, ← hj, seq_right 13 (by decide), seq13]; decide
              have hY : Hid (D2 w wr b b8 k j A c A8 c8) := hD
              have KD : Hid (∀ (s : AtD w b b8 k j A c A8 c8), Calls Tryd.prog 17 #[.agg #[.int .i64 t6.kind, .string t6.name, .int .i64 t6.num, .slice A t6.kids.length c]] s.W fun e w'' => e = .returned (.int .i64 (K5 : Nat)) ∧ ∃ s' : AtD w b b8 k j A c A8 c8, w'' = s'.W) := fun s =>
                (depth_any t6 A c s.W (by omega) (v6 s)).mono fun e w' h9 => ⟨by rw [h9.1, d6], ⟨w', s.ok.later h9.2⟩, rfl⟩
              have KS : Hid (∀ (s : AtD w b b8 k j A c A8 c8), Calls Tryd.prog 15 #[.agg #[.int .i64 t8.kind, .string t8.name, .int .i64 t8.num, .slice A8 t8.kids.length c8]] s.W fun e w'' => e = .returned (.int .i64 (n8 : Nat)) ∧ ∃ s' : AtD w b b8 k j A c A8 c8, w'' = s'.W) := fun s =>
                (size_any t8 A8 c8 s.W (by omega) (v8 s)).mono fun e w' h9 => ⟨by rw [h9.1, s8], ⟨w', s.ok.later h9.2⟩, rfl⟩
              have KR : Hid (∀ (s : AtD w b b8 k j A c A8 c8) (v : Value) (r : Bool), ((v = .agg #[.int .i64 t6.kind, .string t6.name, .int .i64 t6.num, .slice A t6.kids.length c] ∧ r = rb) ∨ (v = .agg #[.int .i64 t8.kind, .string t8.name, .int .i64 t8.num, .slice A8 t8.kids.length c8] ∧ r = rs)) → Calls Tryd.prog 19 #[v] s.W fun e w'' => e = .returned (.bool r) ∧ ∃ s' : AtD w b b8 k j A c A8 c8, w'' = s'.W) := fun s v r hv => by
                rcases hv with ⟨rfl, rfl⟩ | ⟨rfl, rfl⟩
                · exact (right_any t6 A c s.W s.ok.now.env (by omega) (v6 s)).mono fun e w' h9 => ⟨by rw [h9.1, r6, hrb], ⟨w', s.ok.later h9.2⟩, rfl⟩
                · exact (right_any t8 A8 c8 s.W s.ok.now.env (by omega) (v8 s)).mono fun e w' h9 => ⟨by rw [h9.1, r8], ⟨w', s.ok.later h9.2⟩, rfl⟩
              replace v6 := Lib.hid v6
              replace v8 := Lib.hid v8
              clear v6 v8 s6 d6 r6 s8 r8 hj ht6 ht8 hD hN hK6 hE
              haveI : Nonempty (AtD w b b8 k j A c A8 c8) := ⟨⟨wr, hY.out⟩⟩
              go_wp2_with fail
              have hz : (m % 2 = 0 ∧ rs = true) ∨ (m % 2 = 1 ∧ rs = false) := by
                cases rs with
                | true => exact .inl ⟨hm8.2 rfl, rfl⟩
                | false => exact .inr ⟨by have : ¬ m % 2 = 0 := fun h => by have := hm8.1 h; cases this
                                          omega, rfl⟩
              clear hM hm8
              rcases hz with ⟨hz, rfl⟩ | ⟨hz, rfl⟩
              · have g8 : n8 ≤ 10000 := of_decide_eq_true hs8
                have g8d : decide ((n8 : Int) ≤ 10000) = true := decide_eq_true (by omega)
                have g8i : (n8 : Int) ≤ 10000 := by omega
                cases rb with
                | true =>
                  have g5 : K5 ≤ 200 := of_decide_eq_true hrb
                  have g5d : decide ((K5 : Int) ≤ 200) = true := decide_eq_true (by omega)
                  have g5i : (K5 : Int) ≤ 200 := by omega
                  refine wp_region_quiet_in (S := AtD w b b8 k j A c A8 c8) (fun s => s.W) (by kernel_rfl) (by kernel_rfl) ⟨⟨wr.drew, hY.out.later (Below.refl _ wr).drew⟩, rfl⟩ ?_
                  repeat (go_big_quiet_step (first | (go_at_call 15; exact KS.out _) | (go_at_call 17; exact KD.out _) | (go_at_call 19; exact KR.out _ _ _ (by first | exact .inl ⟨rfl, rfl⟩ | exact .inr ⟨rfl, rfl⟩))))
                  refine wpQuiet_nil ?_
                  rintro _ ⟨s, rfl⟩
                  go_wp2
                  go_ret
                  exact ⟨rfl, s.ok.now.below⟩
                | false =>
                  have g5 : ¬ K5 ≤ 200 := of_decide_eq_false hrb
                  have g5d : decide ((K5 : Int) ≤ 200) = false := decide_eq_false (by omega)
                  have g5i : ¬ (K5 : Int) ≤ 200 := by omega
                  refine wp_region_quiet_in (S := AtD w b b8 k j A c A8 c8) (fun s => s.W) (by kernel_rfl) (by kernel_rfl) ⟨⟨wr.drew, hY.out.later (Below.refl _ wr).drew⟩, rfl⟩ ?_
                  repeat (go_big_quiet_step (first | (go_at_call 15; exact KS.out _) | (go_at_call 17; exact KD.out _) | (go_at_call 19; exact KR.out _ _ _ (by first | exact .inl ⟨rfl, rfl⟩ | exact .inr ⟨rfl, rfl⟩))))
                  refine wpQuiet_nil ?_
                  rintro _ ⟨s, rfl⟩
                  go_wp2
                  go_ret
                  exact ⟨rfl, s.ok.now.below⟩
              · have g8 : ¬ n8 ≤ 10000 := of_decide_eq_false hs8
                have g8d : decide ((n8 : Int) ≤ 10000) = false := decide_eq_false (by omega)
                have g8i : ¬ (n8 : Int) ≤ 10000 := by omega
                cases rb with
                | true =>
                  have g5 : K5 ≤ 200 := of_decide_eq_true hrb
                  have g5d : decide ((K5 : Int) ≤ 200) = true := decide_eq_true (by omega)
                  have g5i : (K5 : Int) ≤ 200 := by omega
                  refine wp_region_quiet_in (S := AtD w b b8 k j A c A8 c8) (fun s => s.W) (by kernel_rfl) (by kernel_rfl) ⟨⟨wr.drew, hY.out.later (Below.refl _ wr).drew⟩, rfl⟩ ?_
                  repeat (go_big_quiet_step (first | (go_at_call 15; exact KS.out _) | (go_at_call 17; exact KD.out _) | (go_at_call 19; exact KR.out _ _ _ (by first | exact .inl ⟨rfl, rfl⟩ | exact .inr ⟨rfl, rfl⟩))))
                  refine wpQuiet_nil ?_
                  rintro _ ⟨s, rfl⟩
                  go_wp2
                  go_ret
                  exact ⟨rfl, s.ok.now.below⟩
                | false =>
                  have g5 : ¬ K5 ≤ 200 := of_decide_eq_false hrb
                  have g5d : decide ((K5 : Int) ≤ 200) = false := decide_eq_false (by omega)
                  have g5i : ¬ (K5 : Int) ≤ 200 := by omega
                  refine wp_region_quiet_in (S := AtD w b b8 k j A c A8 c8) (fun s => s.W) (by kernel_rfl) (by kernel_rfl) ⟨⟨wr.drew, hY.out.later (Below.refl _ wr).drew⟩, rfl⟩ ?_
                  repeat (go_big_quiet_step (first | (go_at_call 15; exact KS.out _) | (go_at_call 17; exact KD.out _) | (go_at_call 19; exact KR.out _ _ _ (by first | exact .inl ⟨rfl, rfl⟩ | exact .inr ⟨rfl, rfl⟩))))
                  refine wpQuiet_nil ?_
                  rintro _ ⟨s, rfl⟩
                  go_wp2
                  go_ret
                  exact ⟨rfl, s.ok.now.below⟩
end Go.Proofs.YtkmeolbombhlfaaDoor
