/-
  parse.Parse, once more: what it hands back lies in blocks that it made. No condition.
-/
import Derived.Test.YtpdombmpmhnolaaGreatDoorPaPr
namespace Go.Proofs.YtpdombmpmhnolaaGreatDoor.Pa
open Go.RowKit Go.Shelf Go.Tm Go.Lx Go.Maps
attribute [local go_sem] Oper.semAt_some

def FarRes (s : ByteArray) (w : World) (e : Ending) (w' : World) : Prop :=
  Below w.heap.size w w' ∧ ((∃ t B d, ToldS s t 0 ∧ t.size ≤ 10000 ∧ e = .returned (.tuple #[tmV t B d, .int .i64 0]) ∧ TmV w' (fun b => w.heap.size ≤ b ∧ b < w'.heap.size) t B d)
    ∨ ∃ n : Nat, (n = 1 ∨ n = 2) ∧ ToldS s T0 n ∧ e = .returned (.tuple #[noV, .int .i64 n]))
set_option maxRecDepth 100000 in
set_option maxHeartbeats 4000000 in
theorem parse_far (s : ByteArray) (w : World) (hE : EnvP w) (hm : s.size ≤ 9223372036854775807) : Calls Tryz.prog 15 #[.string s] w (FarRes s w) := by
  obtain ⟨W1, hW1⟩ : ∃ W, w.alloc (.cells #[.int .i64 0, .string ⟨#[]⟩, .int .i64 0, .slice none 0 0] 26) = W := ⟨_, rfl⟩
  have hX := BxW.new w
  have hb1 := X.later_alloc w (.cells #[.int .i64 0, .string ⟨#[]⟩, .int .i64 0, .slice none 0 0] 26)
  rw [hW1] at hX hb1
  have kl := Lib.hid (X.lex_any s W1 (hE.later hb1).s.lx hm)
  have kt := Lib.hid (fun (W : World) (hb : Below w.heap.size w W) (A : Option Addr) (l : List Tok) (c : Nat) (hU : X.Toks W W.heap.size A l) (hs : s.size ≤ 65536) (h : lexL s.data.toList = some l) => toksP_any A l c W (hE.later hb) hU (lex_small hs h).2 (by have := (lex_small hs h).1; omega))
  replace hE := Lib.hid hE
  replace hX := Lib.hid hX
  replace hb1 := Lib.hid hb1
  replace hW1 := Lib.hid hW1
  clear hm
  go_enter Tryz.func15, Tryz.ntmps15
  go_wp2_with fail
  rw [hW1.out]
  refine kl.out.mono ?_
  rintro e w2 ⟨hb2, ho⟩
  have hX2 := Lib.hid (hX.out.later hb2)
  clear hX hb1 kl hb2
  rcases ho with ⟨h1, rfl⟩ | ⟨h1, h2, rfl⟩ | ⟨h1, l, A, c, h2, rfl, hU, _, _, _⟩
  · have ht : ToldS s T0 1 := .inl ⟨h1, rfl, rfl⟩
    replace ht := Lib.hid ht
    clear h1 kt
    have hr9 := hX2.out.box
    have f0 := frozen_of_row hr9 0
    have f1 := frozen_of_row hr9 1
    have f2 := frozen_of_row hr9 2
    have f3 := frozen_of_row hr9 3
    have g0 := cell_of_row w2 w.heap.size 0 _ _ _ hr9
    have g1 := cell_of_row w2 w.heap.size 1 _ _ _ hr9
    have g2 := cell_of_row w2 w.heap.size 2 _ _ _ hr9
    have g3 := cell_of_row w2 w.heap.size 3 _ _ _ hr9
    have s9 := set4_same (v0 := .int .i64 0) (v1 := .string ⟨#[]⟩) (v2 := .int .i64 0) (v3 := .slice none 0 0) hr9
    have s0 := cell_of_row _ w.heap.size 0 _ _ _ s9
    have s1 := cell_of_row _ w.heap.size 1 _ _ _ s9
    have s2 := cell_of_row _ w.heap.size 2 _ _ _ s9
    have s3 := cell_of_row _ w.heap.size 3 _ _ _ s9
    unfold set4 at s0 s1 s2 s3
    have hend : Hid (FarRes s w (.returned (.tuple #[noV, (.int .i64 1)])) (set4 w2 w.heap.size (.int .i64 0) (.string ⟨#[]⟩) (.int .i64 0) (.slice none 0 0))) := ⟨set4_below hX2.out.below (Nat.le_refl _), .inr ⟨1, .inl rfl, ht.out, rfl⟩⟩
    unfold noV at hend
    unfold set4 at hend
    replace hr9 := Lib.hid hr9
    replace s9 := Lib.hid s9
    have hres : Tryz.f15.results = #[.cell 2 26, .tmp 3] := by kernel_rfl
    replace hres := Lib.hid hres
    go_wp2_with fail
    refine bodyPost_ret (v := .tuple #[.agg #[.int .i64 0, .string ⟨#[]⟩, .int .i64 0, .slice none 0 0], (.int .i64 1)]) ?_ rfl hend.out
    simp only [results, hres.out]
    go_simp
    try rfl

  · have ht : ToldS s T0 2 := .inr (.inl ⟨h1, h2, rfl, rfl⟩)
    replace ht := Lib.hid ht
    clear h1 h2 kt
    have hr9 := hX2.out.box
    have f0 := frozen_of_row hr9 0
    have f1 := frozen_of_row hr9 1
    have f2 := frozen_of_row hr9 2
    have f3 := frozen_of_row hr9 3
    have g0 := cell_of_row w2 w.heap.size 0 _ _ _ hr9
    have g1 := cell_of_row w2 w.heap.size 1 _ _ _ hr9
    have g2 := cell_of_row w2 w.heap.size 2 _ _ _ hr9
    have g3 := cell_of_row w2 w.heap.size 3 _ _ _ hr9
    have s9 := set4_same (v0 := .int .i64 0) (v1 := .string ⟨#[]⟩) (v2 := .int .i64 0) (v3 := .slice none 0 0) hr9
    have s0 := cell_of_row _ w.heap.size 0 _ _ _ s9
    have s1 := cell_of_row _ w.heap.size 1 _ _ _ s9
    have s2 := cell_of_row _ w.heap.size 2 _ _ _ s9
    have s3 := cell_of_row _ w.heap.size 3 _ _ _ s9
    unfold set4 at s0 s1 s2 s3
    have hend : Hid (FarRes s w (.returned (.tuple #[noV, (.int .i64 2)])) (set4 w2 w.heap.size (.int .i64 0) (.string ⟨#[]⟩) (.int .i64 0) (.slice none 0 0))) := ⟨set4_below hX2.out.below (Nat.le_refl _), .inr ⟨2, .inr rfl, ht.out, rfl⟩⟩
    unfold noV at hend
    unfold set4 at hend
    replace hr9 := Lib.hid hr9
    replace s9 := Lib.hid s9
    have hres : Tryz.f15.results = #[.cell 2 26, .tmp 3] := by kernel_rfl
    replace hres := Lib.hid hres
    go_wp2_with fail
    refine bodyPost_ret (v := .tuple #[.agg #[.int .i64 0, .string ⟨#[]⟩, .int .i64 0, .slice none 0 0], (.int .i64 2)]) ?_ rfl hend.out
    simp only [results, hres.out]
    go_simp
    try rfl

  · have hto := Lib.hid (fun (t : Go.Tm.T) (n : Nat) (h : Told l t n) => (show ToldS s t n from .inr (.inr ⟨l, h1, h2, h⟩)))
    replace kt := Lib.hid (kt.out w2 hX2.out.below A l c hU h1 h2)
    have hz3 := Lib.hid hX2.out.below.size
    clear h1 h2 hU
    obtain ⟨L, hL⟩ : ∃ n, l.length = n := ⟨_, rfl⟩
    rw [hL] at kt ⊢
    replace hL := Lib.hid hL
    go_wp2_with fail
    refine kt.out.mono ?_
    rintro e w4 ⟨hb4, ho⟩
    have hX4 := Lib.hid (hX2.out.later hb4)
    clear kt hX2 hb4
    rcases ho with ⟨t, B, d, ht, hsz, rfl, hT⟩ | ⟨n, hn2, ht, rfl⟩
    · replace ht := Lib.hid (hto.out _ _ ht)
      replace hsz := Lib.hid hsz
      replace hT : Hid (TmV w4 (fun b => w.heap.size < b ∧ b < w4.heap.size) t B d) := hT.kept (fun b hb => ⟨Nat.lt_of_le_of_lt hz3.out hb.1, hb.2⟩) (fun _ _ => rfl)
      unfold tmV
      have hr9 := hX4.out.box
      have f0 := frozen_of_row hr9 0
      have f1 := frozen_of_row hr9 1
      have f2 := frozen_of_row hr9 2
      have f3 := frozen_of_row hr9 3
      have g0 := cell_of_row w4 w.heap.size 0 _ _ _ hr9
      have g1 := cell_of_row w4 w.heap.size 1 _ _ _ hr9
      have g2 := cell_of_row w4 w.heap.size 2 _ _ _ hr9
      have g3 := cell_of_row w4 w.heap.size 3 _ _ _ hr9
      have s9 := set4_same (v0 := .int .i64 t.kind) (v1 := .string t.name) (v2 := .int .i64 t.num) (v3 := .slice B t.kids.length d) hr9
      have s0 := cell_of_row _ w.heap.size 0 _ _ _ s9
      have s1 := cell_of_row _ w.heap.size 1 _ _ _ s9
      have s2 := cell_of_row _ w.heap.size 2 _ _ _ s9
      have s3 := cell_of_row _ w.heap.size 3 _ _ _ s9
      unfold set4 at s0 s1 s2 s3
      have hend : Hid (FarRes s w (.returned (.tuple #[tmV t B d, .int .i64 0])) (set4 w4 w.heap.size (.int .i64 t.kind) (.string t.name) (.int .i64 t.num) (.slice B t.kids.length d))) := ⟨set4_below hX4.out.below (Nat.le_refl _), .inl ⟨t, B, d, ht.out, hsz.out, rfl, hT.out.kept (fun b hb => ⟨Nat.le_of_lt hb.1, by rw [set4_size]; exact hb.2⟩) (fun b hb => set4_other (by omega))⟩⟩
      unfold set4 at hend
      replace hr9 := Lib.hid hr9
      replace s9 := Lib.hid s9
      have hres : Tryz.f15.results = #[.cell 2 26, .tmp 3] := by kernel_rfl
      replace hres := Lib.hid hres
      go_wp2_with fail
      refine bodyPost_ret (v := .tuple #[.agg #[.int .i64 t.kind, .string t.name, .int .i64 t.num, .slice B t.kids.length d], .int .i64 0]) ?_ rfl hend.out
      simp only [results, hres.out]
      go_simp

    · replace ht := Lib.hid (hto.out _ _ ht)
      replace hn2 := Lib.hid hn2
      unfold noV
      have hr9 := hX4.out.box
      have f0 := frozen_of_row hr9 0
      have f1 := frozen_of_row hr9 1
      have f2 := frozen_of_row hr9 2
      have f3 := frozen_of_row hr9 3
      have g0 := cell_of_row w4 w.heap.size 0 _ _ _ hr9
      have g1 := cell_of_row w4 w.heap.size 1 _ _ _ hr9
      have g2 := cell_of_row w4 w.heap.size 2 _ _ _ hr9
      have g3 := cell_of_row w4 w.heap.size 3 _ _ _ hr9
      have s9 := set4_same (v0 := .int .i64 0) (v1 := .string ⟨#[]⟩) (v2 := .int .i64 0) (v3 := .slice none 0 0) hr9
      have s0 := cell_of_row _ w.heap.size 0 _ _ _ s9
      have s1 := cell_of_row _ w.heap.size 1 _ _ _ s9
      have s2 := cell_of_row _ w.heap.size 2 _ _ _ s9
      have s3 := cell_of_row _ w.heap.size 3 _ _ _ s9
      unfold set4 at s0 s1 s2 s3
      have hend : Hid (FarRes s w (.returned (.tuple #[noV, (.int .i64 n)])) (set4 w4 w.heap.size (.int .i64 0) (.string ⟨#[]⟩) (.int .i64 0) (.slice none 0 0))) := ⟨set4_below hX4.out.below (Nat.le_refl _), .inr ⟨n, hn2.out, ht.out, rfl⟩⟩
      unfold noV at hend
      unfold set4 at hend
      replace hr9 := Lib.hid hr9
      replace s9 := Lib.hid s9
      have hres : Tryz.f15.results = #[.cell 2 26, .tmp 3] := by kernel_rfl
      replace hres := Lib.hid hres
      go_wp2_with fail
      refine bodyPost_ret (v := .tuple #[.agg #[.int .i64 0, .string ⟨#[]⟩, .int .i64 0, .slice none 0 0], (.int .i64 n)]) ?_ rfl hend.out
      simp only [results, hres.out]
      go_simp
      try rfl

theorem far_ok {s : ByteArray} {t : Go.Tm.T} (h : ToldS s t 0) (w : World) (hE : EnvP w) (hm : s.size ≤ 9223372036854775807) :
    Calls Tryz.prog 15 #[.string s] w fun e w' => ∃ B d, e = .returned (.tuple #[.agg #[.int .i64 t.kind, .string t.name, .int .i64 t.num, .slice B t.kids.length d], .int .i64 0]) ∧ Below w.heap.size w w' ∧ TmV w' (fun b => w.heap.size ≤ b ∧ b < w'.heap.size) t B d ∧ t.size ≤ 10000 :=
  (parse_far s w hE hm).mono fun e w' ⟨hb, ho⟩ => by
    rcases ho with ⟨u, B, d, h1, h2, h3, h4⟩ | ⟨n, h1, h2, h3⟩
    · obtain ⟨rfl, _⟩ := toldS_one h h1
      exact ⟨B, d, h3, hb, h4, h2⟩
    · obtain ⟨_, e⟩ := toldS_one h h2
      omega
/-- a box that was laid ahead of the call -/
theorem Bx.put {w V W : World} {l : List TB} (h : Bx w l V) (hb : Below V.heap.size V W) {t : Go.Tm.T} {A : Option Addr} {c : Nat} {a0 a1 a2 a3 : Value} {n : Nat} (hz : W.heap[V.heap.size]? = some (.cells #[a0, a1, a2, a3] 26 (0, 0))) (hn : V.heap.size < n) (hT : TmV W (fun b => n ≤ b ∧ b < W.heap.size) t A c) :
    Bx w (⟨t, A, c, V.heap.size⟩ :: l) (set4 W V.heap.size (.int .i64 t.kind) (.string t.name) (.int .i64 t.num) (.slice A t.kids.length c)) := by
  have h1 := h.later (set4_below (v0 := .int .i64 t.kind) (v1 := .string t.name) (v2 := .int .i64 t.num) (v3 := .slice A t.kids.length c) hb (Nat.le_refl _))
  exact ⟨h1.below, h1.env, fun x hx => by
    rcases List.mem_cons.1 hx with rfl | hx
    · exact ⟨hT.kept (fun b hb => by rw [set4_size]; exact hb.2) (fun b hb => set4_other (by omega)), set4_same hz⟩
    · exact h1.at_ x hx⟩
end Go.Proofs.YtpdombmpmhnolaaGreatDoor.Pa
