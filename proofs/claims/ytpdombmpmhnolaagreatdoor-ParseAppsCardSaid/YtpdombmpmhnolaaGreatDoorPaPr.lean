/-
  Terms by value, each in a box: what the walks of chapter 5's laws carry. No condition.
  What parse.Parse answers where what is told of the text is known; the kids' cells of a term. No condition.
  The walk of chapter 5's examples: they hold. Condition: the variables that are read lie as laid.
  What the walks of chapter 5's laws share: what is told of what is shown. No condition.
  Texts of tokens put one behind another. No condition.
-/
import Derived.Test.YtpdombmpmhnolaaGreatDoorPaToks
import Derived.Test.YtpdombmpmhnolaaGreatDoorLxLex
import Derived.Test.YtpdombmpmhnolaaGreatDoorShMade
import Derived.Test.YtpdombmpmhnolaaGreatDoorShShow
import Derived.Test.YtpdombmpmhnolaaGreatDoorTmSame
import Derived.Test.YtpdombmpmhnolaaGreatDoorPaMath
namespace Go.Proofs.YtpdombmpmhnolaaGreatDoor.Pa
open Go.RowKit Go.Shelf Go.Tm Go.Lx Go.Maps

/-- a term, where its kids lie, how many may, and its box -/
structure TB where
  t : Go.Tm.T
  A : Option Addr
  c : Nat
  b : Nat
def TB.cells (x : TB) : Array Value := #[.int .i64 x.t.kind, .string x.t.name, .int .i64 x.t.num, .slice x.A x.t.kids.length x.c]
structure TB.At (W : World) (x : TB) : Prop where
  tm : TmV W (· < W.heap.size) x.t x.A x.c
  box : W.heap[x.b]? = some (.cells #[.int .i64 x.t.kind, .string x.t.name, .int .i64 x.t.num, .slice x.A x.t.kids.length x.c] 26 (0, 0))
theorem TB.At.later {W W' : World} {x : TB} (h : x.At W) (hb : Below W.heap.size W W') : x.At W' := ⟨h.tm.later hb, (hb.block _ (World.lt_of_get h.box)).trans h.box⟩
/-- the variables, and that below nothing has turned; the boxes -/
structure Bx (w : World) (l : List TB) (W : World) : Prop where
  below : Below w.heap.size w W
  env : EnvP W
  at_ : ∀ x ∈ l, x.At W
theorem Bx.later {w W W' : World} {l : List TB} (h : Bx w l W) (hb : Below W.heap.size W W') : Bx w l W' := ⟨h.below.trans (hb.mono h.below.size), h.env.later hb, fun x hx => (h.at_ x hx).later hb⟩
theorem Bx.new {w : World} (h : EnvP w) : Bx w [] w := ⟨Below.refl _ _, h, fun _ hx => by cases hx⟩
/-- one more box -/
theorem Bx.add {w W : World} {l : List TB} (h : Bx w l W) {t : Go.Tm.T} {A : Option Addr} {c : Nat} (hT : TmV W (· < W.heap.size) t A c) :
    Bx w (⟨t, A, c, W.heap.size⟩ :: l) (W.alloc (.cells #[.int .i64 t.kind, .string t.name, .int .i64 t.num, .slice A t.kids.length c] 26)) := by
  have h1 := h.later (X.later_alloc W (.cells #[.int .i64 t.kind, .string t.name, .int .i64 t.num, .slice A t.kids.length c] 26))
  exact ⟨h1.below, h1.env, fun x hx => by
    rcases List.mem_cons.1 hx with rfl | hx
    · exact ⟨hT.later (X.later_alloc _ _), World.alloc_heap_new _ _⟩
    · exact h1.at_ x hx⟩
theorem Bx.drop {w W : World} {x : TB} {l : List TB} (h : Bx w (x :: l) W) : Bx w l W := ⟨h.below, h.env, fun y hy => h.at_ y (List.mem_cons_of_mem _ hy)⟩
/-- such a world -/
structure BS (w : World) (l : List TB) where
  W : World
  ok : Bx w l W
theorem BS.same {w : World} {l : List TB} (S : BS w l) {x y : TB} (hx : x.At S.W) (hy : y.At S.W) (hs : x.t.size ≤ 4194304) :
    Calls Tryz.prog 22 #[.agg #[.int .i64 x.t.kind, .string x.t.name, .int .i64 x.t.num, .slice x.A x.t.kids.length x.c], .agg #[.int .i64 y.t.kind, .string y.t.name, .int .i64 y.t.num, .slice y.A y.t.kids.length y.c]] S.W fun e w'' => e = .returned (.bool (eqT x.t y.t)) ∧ ∃ S' : BS w l, w'' = S'.W :=
  (same_any x.t y.t x.A y.A x.c y.c S.W hs hx.tm hy.tm).mono fun _ w' h9 => ⟨h9.1, ⟨w', S.ok.later h9.2⟩, rfl⟩
/-- terms by value in a row -/
theorem row_tm {W : World} {b : Nat} {k n : Int} {nm : ByteArray} {ty : TypeId} (hnm : nm.size ≤ 9223372036854775807) (xs : List (Go.Tm.T × Option Addr × Nat)) (c : Nat) (hx : ∀ x ∈ xs, TmV W (· < W.heap.size) x.1 x.2.1 x.2.2) (hb : W.heap[b]? = some (.cells (xs.flatMap tmC).toArray ty (0, 0))) :
    TmV W (· < W.heap.size) (.node k nm n (xs.map (·.1))) (some ⟨b, 0, none⟩) c := by
  refine ⟨hnm, .inr ⟨_, _, rfl, ?_⟩⟩
  refine row_new (p := (· < W.heap.size)) (World.lt_of_get hb) xs 0 hx (fun i v hv => ?_)
  rw [Nat.zero_add, cell_of_row W b i _ _ _ hb, ← hv, List.getElem?_toArray]
theorem TmV.wide {W : World} {n : Nat} {t : Go.Tm.T} {A : Option Addr} {c : Nat} (h : TmV W (fun k => n ≤ k ∧ k < W.heap.size) t A c) : TmV W (· < W.heap.size) t A c := h.kept (fun _ hk => hk.2) (fun _ _ => rfl)

/-- what is told of a text -/
def ToldS (s : ByteArray) (t : Go.Tm.T) (n : Nat) : Prop := (65536 < s.size ∧ t = T0 ∧ n = 1) ∨ (s.size ≤ 65536 ∧ lexL s.data.toList = none ∧ t = T0 ∧ n = 2) ∨ ∃ l, s.size ≤ 65536 ∧ lexL s.data.toList = some l ∧ Told l t n
def ParseRes (s : ByteArray) (w : World) (e : Ending) (w' : World) : Prop :=
  Below w.heap.size w w' ∧ ((∃ t B d, ToldS s t 0 ∧ t.size ≤ 10000 ∧ e = .returned (.tuple #[tmV t B d, .int .i64 0]) ∧ TmV w' (· < w'.heap.size) t B d)
    ∨ ∃ n : Nat, (n = 1 ∨ n = 2) ∧ ToldS s T0 n ∧ e = .returned (.tuple #[noV, .int .i64 n]))
theorem len2_le : ∀ (l : List Tok), (l.length : Int) ≤ len2 l ∧ ∀ x ∈ l, (x.text.length : Int) ≤ len2 l
  | [] => ⟨by rw [len2_nil]; exact Int.le_refl _, fun _ h => by cases h⟩
  | y :: l => by
    obtain ⟨h1, h2⟩ := len2_le l
    rw [len2_cons, List.length_cons]
    have h3 := len2_nn l
    refine ⟨by omega, fun x hx => ?_⟩
    rcases List.mem_cons.1 hx with rfl | hx
    · omega
    · have := h2 x hx; omega
theorem lex_small {s : ByteArray} {l : List Tok} (hs : s.size ≤ 65536) (h : lexL s.data.toList = some l) : l.length ≤ 131072 ∧ X.Short l := by
  have h1 := len2_lex _ s.data.toList (Nat.le_refl _) l h
  have h2 := len2_le l
  have h3 : s.data.toList.length = s.size := by simp
  refine ⟨by omega, fun j => ?_⟩
  by_cases hj : j < l.length
  · rw [List.getD_eq_getElem?_getD, List.getElem?_eq_getElem hj, Option.getD_some]
    have := h2.2 _ (List.getElem_mem hj)
    omega
  · rw [List.getD_eq_getElem?_getD, List.getElem?_eq_none (by omega)]; show (0 : Nat) ≤ _; omega

set_option maxRecDepth 100000 in
set_option maxHeartbeats 4000000 in
theorem parse_any (s : ByteArray) (w : World) (hE : EnvP w) (hm : s.size ≤ 9223372036854775807) : Calls Tryz.prog 15 #[.string s] w (ParseRes s w) := by
  obtain ⟨W1, hW1⟩ : ∃ W, w.alloc (.cells #[.int .i64 0, .string ⟨#[]⟩, .int .i64 0, .slice none 0 0] 26) = W := ⟨_, rfl⟩
  have hX := BxW.new w
  have hb1 := X.later_alloc w (.cells #[.int .i64 0, .string ⟨#[]⟩, .int .i64 0, .slice none 0 0] 26)
  rw [hW1] at hX hb1
  have kl := Lib.hid (X.lex_any s W1 (hE.later hb1).s.lx hm)
  have kt := Lib.hid (fun (W : World) (hb : Below w.heap.size w W) (A : Option Addr) (l : List Tok) (c : Nat) (hU : X.Toks W W.heap.size A l) (hs : s.size ≤ 65536) (h : lexL s.data.toList = some l) => toksP_any A l c W (hE.later hb) hU (lex_small hs h).2 (by have := (lex_small hs h).1; omega))
  replace hE := Lib.hid hE
  replace hX := Lib.hid hX
  replace hb1 := Lib.hid hb1
  replace hW1 := Lib.hid hW1
  clear hm
  go_enter Tryz.func15, Tryz.ntmps15
  go_wp2_with fail
  rw [hW1.out]
  refine kl.out.mono ?_
  rintro e w2 ⟨hb2, ho⟩
  have hX2 := Lib.hid (hX.out.later hb2)
  clear hX hb1 kl hb2
  rcases ho with ⟨h1, rfl⟩ | ⟨h1, h2, rfl⟩ | ⟨h1, l, A, c, h2, rfl, hU, _, _, _⟩
  · have ht : ToldS s T0 1 := .inl ⟨h1, rfl, rfl⟩
    replace ht := Lib.hid ht
    clear h1 kt
    have hr9 := hX2.out.box
    have f0 := frozen_of_row hr9 0
    have f1 := frozen_of_row hr9 1
    have f2 := frozen_of_row hr9 2
    have f3 := frozen_of_row hr9 3
    have g0 := cell_of_row w2 w.heap.size 0 _ _ _ hr9
    have g1 := cell_of_row w2 w.heap.size 1 _ _ _ hr9
    have g2 := cell_of_row w2 w.heap.size 2 _ _ _ hr9
    have g3 := cell_of_row w2 w.heap.size 3 _ _ _ hr9
    have s9 := set4_same (v0 := .int .i64 0) (v1 := .string ⟨#[]⟩) (v2 := .int .i64 0) (v3 := .slice none 0 0) hr9
    have s0 := cell_of_row _ w.heap.size 0 _ _ _ s9
    have s1 := cell_of_row _ w.heap.size 1 _ _ _ s9
    have s2 := cell_of_row _ w.heap.size 2 _ _ _ s9
    have s3 := cell_of_row _ w.heap.size 3 _ _ _ s9
    unfold set4 at s0 s1 s2 s3
    have hend : Hid (ParseRes s w (.returned (.tuple #[noV, (.int .i64 1)])) (set4 w2 w.heap.size (.int .i64 0) (.string ⟨#[]⟩) (.int .i64 0) (.slice none 0 0))) := ⟨set4_below hX2.out.below (Nat.le_refl _), .inr ⟨1, .inl rfl, ht.out, rfl⟩⟩
    unfold noV at hend
    unfold set4 at hend
    replace hr9 := Lib.hid hr9
    replace s9 := Lib.hid s9
    have hres : Tryz.f15.results = #[.cell 2 26, .tmp 3] := by kernel_rfl
    replace hres := Lib.hid hres
    go_wp2_with fail
    refine bodyPost_ret (v := .tuple #[.agg #[.int .i64 0, .string ⟨#[]⟩, .int .i64 0, .slice none 0 0], (.int .i64 1)]) ?_ rfl hend.out
    simp only [results, hres.out]
    go_simp
    try rfl

  · have ht : ToldS s T0 2 := .inr (.inl ⟨h1, h2, rfl, rfl⟩)
    replace ht := Lib.hid ht
    clear h1 h2 kt
    have hr9 := hX2.out.box
    have f0 := frozen_of_row hr9 0
    have f1 := frozen_of_row hr9 1
    have f2 := frozen_of_row hr9 2
    have f3 := frozen_of_row hr9 3
    have g0 := cell_of_row w2 w.heap.size 0 _ _ _ hr9
    have g1 := cell_of_row w2 w.heap.size 1 _ _ _ hr9
    have g2 := cell_of_row w2 w.heap.size 2 _ _ _ hr9
    have g3 := cell_of_row w2 w.heap.size 3 _ _ _ hr9
    have s9 := set4_same (v0 := .int .i64 0) (v1 := .string ⟨#[]⟩) (v2 := .int .i64 0) (v3 := .slice none 0 0) hr9
    have s0 := cell_of_row _ w.heap.size 0 _ _ _ s9
    have s1 := cell_of_row _ w.heap.size 1 _ _ _ s9
    have s2 := cell_of_row _ w.heap.size 2 _ _ _ s9
    have s3 := cell_of_row _ w.heap.size 3 _ _ _ s9
    unfold set4 at s0 s1 s2 s3
    have hend : Hid (ParseRes s w (.returned (.tuple #[noV, (.int .i64 2)])) (set4 w2 w.heap.size (.int .i64 0) (.string ⟨#[]⟩) (.int .i64 0) (.slice none 0 0))) := ⟨set4_below hX2.out.below (Nat.le_refl _), .inr ⟨2, .inr rfl, ht.out, rfl⟩⟩
    unfold noV at hend
    unfold set4 at hend
    replace hr9 := Lib.hid hr9
    replace s9 := Lib.hid s9
    have hres : Tryz.f15.results = #[.cell 2 26, .tmp 3] := by kernel_rfl
    replace hres := Lib.hid hres
    go_wp2_with fail
    refine bodyPost_ret (v := .tuple #[.agg #[.int .i64 0, .string ⟨#[]⟩, .int .i64 0, .slice none 0 0], (.int .i64 2)]) ?_ rfl hend.out
    simp only [results, hres.out]
    go_simp
    try rfl

  · have hto := Lib.hid (fun (t : Go.Tm.T) (n : Nat) (h : Told l t n) => (show ToldS s t n from .inr (.inr ⟨l, h1, h2, h⟩)))
    replace kt := Lib.hid (kt.out w2 hX2.out.below A l c hU h1 h2)
    have hz3 := Lib.hid hX2.out.below.size
    clear h1 h2 hU
    obtain ⟨L, hL⟩ : ∃ n, l.length = n := ⟨_, rfl⟩
    rw [hL] at kt ⊢
    replace hL := Lib.hid hL
    go_wp2_with fail
    refine kt.out.mono ?_
    rintro e w4 ⟨hb4, ho⟩
    have hX4 := Lib.hid (hX2.out.later hb4)
    clear kt hX2 hb4
    rcases ho with ⟨t, B, d, ht, hsz, rfl, hT⟩ | ⟨n, hn2, ht, rfl⟩
    · replace ht := Lib.hid (hto.out _ _ ht)
      replace hsz := Lib.hid hsz
      replace hT : Hid (TmV w4 (fun b => w.heap.size < b ∧ b < w4.heap.size) t B d) := hT.kept (fun b hb => ⟨Nat.lt_of_le_of_lt hz3.out hb.1, hb.2⟩) (fun _ _ => rfl)
      unfold tmV
      have hr9 := hX4.out.box
      have f0 := frozen_of_row hr9 0
      have f1 := frozen_of_row hr9 1
      have f2 := frozen_of_row hr9 2
      have f3 := frozen_of_row hr9 3
      have g0 := cell_of_row w4 w.heap.size 0 _ _ _ hr9
      have g1 := cell_of_row w4 w.heap.size 1 _ _ _ hr9
      have g2 := cell_of_row w4 w.heap.size 2 _ _ _ hr9
      have g3 := cell_of_row w4 w.heap.size 3 _ _ _ hr9
      have s9 := set4_same (v0 := .int .i64 t.kind) (v1 := .string t.name) (v2 := .int .i64 t.num) (v3 := .slice B t.kids.length d) hr9
      have s0 := cell_of_row _ w.heap.size 0 _ _ _ s9
      have s1 := cell_of_row _ w.heap.size 1 _ _ _ s9
      have s2 := cell_of_row _ w.heap.size 2 _ _ _ s9
      have s3 := cell_of_row _ w.heap.size 3 _ _ _ s9
      unfold set4 at s0 s1 s2 s3
      have hend : Hid (ParseRes s w (.returned (.tuple #[tmV t B d, .int .i64 0])) (set4 w4 w.heap.size (.int .i64 t.kind) (.string t.name) (.int .i64 t.num) (.slice B t.kids.length d))) := ⟨set4_below hX4.out.below (Nat.le_refl _), .inl ⟨t, B, d, ht.out, hsz.out, rfl, hT.out.kept (fun b hb => by rw [set4_size]; exact hb.2) (fun b hb => set4_other (by omega))⟩⟩
      unfold set4 at hend
      replace hr9 := Lib.hid hr9
      replace s9 := Lib.hid s9
      have hres : Tryz.f15.results = #[.cell 2 26, .tmp 3] := by kernel_rfl
      replace hres := Lib.hid hres
      go_wp2_with fail
      refine bodyPost_ret (v := .tuple #[.agg #[.int .i64 t.kind, .string t.name, .int .i64 t.num, .slice B t.kids.length d], .int .i64 0]) ?_ rfl hend.out
      simp only [results, hres.out]
      go_simp

    · replace ht := Lib.hid (hto.out _ _ ht)
      replace hn2 := Lib.hid hn2
      unfold noV
      have hr9 := hX4.out.box
      have f0 := frozen_of_row hr9 0
      have f1 := frozen_of_row hr9 1
      have f2 := frozen_of_row hr9 2
      have f3 := frozen_of_row hr9 3
      have g0 := cell_of_row w4 w.heap.size 0 _ _ _ hr9
      have g1 := cell_of_row w4 w.heap.size 1 _ _ _ hr9
      have g2 := cell_of_row w4 w.heap.size 2 _ _ _ hr9
      have g3 := cell_of_row w4 w.heap.size 3 _ _ _ hr9
      have s9 := set4_same (v0 := .int .i64 0) (v1 := .string ⟨#[]⟩) (v2 := .int .i64 0) (v3 := .slice none 0 0) hr9
      have s0 := cell_of_row _ w.heap.size 0 _ _ _ s9
      have s1 := cell_of_row _ w.heap.size 1 _ _ _ s9
      have s2 := cell_of_row _ w.heap.size 2 _ _ _ s9
      have s3 := cell_of_row _ w.heap.size 3 _ _ _ s9
      unfold set4 at s0 s1 s2 s3
      have hend : Hid (ParseRes s w (.returned (.tuple #[noV, (.int .i64 n)])) (set4 w4 w.heap.size (.int .i64 0) (.string ⟨#[]⟩) (.int .i64 0) (.slice none 0 0))) := ⟨set4_below hX4.out.below (Nat.le_refl _), .inr ⟨n, hn2.out, ht.out, rfl⟩⟩
      unfold noV at hend
      unfold set4 at hend
      replace hr9 := Lib.hid hr9
      replace s9 := Lib.hid s9
      have hres : Tryz.f15.results = #[.cell 2 26, .tmp 3] := by kernel_rfl
      replace hres := Lib.hid hres
      go_wp2_with fail
      refine bodyPost_ret (v := .tuple #[.agg #[.int .i64 0, .string ⟨#[]⟩, .int .i64 0, .slice none 0 0], (.int .i64 n)]) ?_ rfl hend.out
      simp only [results, hres.out]
      go_simp
      try rfl

end Go.Proofs.YtpdombmpmhnolaaGreatDoor.Pa
namespace Go.Proofs.YtpdombmpmhnolaaGreatDoor.Pa
open Go.RowKit Go.Shelf Go.Tm Go.Lx Go.Maps

theorem toldS_one {s : ByteArray} {t u : Go.Tm.T} {n m : Nat} (h : ToldS s t n) (g : ToldS s u m) : t = u ∧ n = m := by
  rcases h with ⟨h1, rfl, rfl⟩ | ⟨h1, h2, rfl, rfl⟩ | ⟨l, h1, h2, h3⟩ <;> rcases g with ⟨g1, rfl, rfl⟩ | ⟨g1, g2, rfl, rfl⟩ | ⟨k, g1, g2, g3⟩
  · exact ⟨rfl, rfl⟩
  · omega
  · omega
  · omega
  · exact ⟨rfl, rfl⟩
  · rw [h2] at g2; cases g2
  · omega
  · rw [h2] at g2; cases g2
  · rw [h2] at g2; cases g2; exact told_one h3 g3
theorem parse_ok {s : ByteArray} {t : Go.Tm.T} (h : ToldS s t 0) (w : World) (hE : EnvP w) (hm : s.size ≤ 9223372036854775807) :
    Calls Tryz.prog 15 #[.string s] w fun e w' => ∃ B d, e = .returned (.tuple #[.agg #[.int .i64 t.kind, .string t.name, .int .i64 t.num, .slice B t.kids.length d], .int .i64 0]) ∧ Below w.heap.size w w' ∧ TmV w' (· < w'.heap.size) t B d ∧ t.size ≤ 10000 :=
  (parse_any s w hE hm).mono fun e w' ⟨hb, ho⟩ => by
    rcases ho with ⟨u, B, d, h1, h2, h3, h4⟩ | ⟨n, h1, h2, h3⟩
    · obtain ⟨rfl, _⟩ := toldS_one h h1
      exact ⟨B, d, h3, hb, h4, h2⟩
    · obtain ⟨_, e⟩ := toldS_one h h2
      omega
theorem parse_no {s : ByteArray} {n : Nat} (h : ToldS s T0 n) (hn : n ≠ 0) (w : World) (hE : EnvP w) (hm : s.size ≤ 9223372036854775807) :
    Calls Tryz.prog 15 #[.string s] w fun e w' => e = .returned (.tuple #[.agg #[.int .i64 0, .string ⟨#[]⟩, .int .i64 0, .slice none 0 0], .int .i64 n]) ∧ Below w.heap.size w w' :=
  (parse_any s w hE hm).mono fun e w' ⟨hb, ho⟩ => by
    rcases ho with ⟨u, B, d, h1, h2, h3, h4⟩ | ⟨m, h1, h2, h3⟩
    · obtain ⟨_, e⟩ := toldS_one h h1
      exact absurd e hn
    · obtain ⟨_, rfl⟩ := toldS_one h h2
      exact ⟨h3, hb⟩
theorem T0_at (W : World) (p : Nat → Prop) : TmV W p T0 none 0 := TmV.leaf W p (by decide)
/-- a kid's cells -/
theorem TmV.kid {W : World} {p : Nat → Prop} {t : Go.Tm.T} {A : Option Addr} {c : Nat} (h : TmV W p t A c) (hk : t.kids ≠ []) : ∃ kb ko, A = some ⟨kb, ko, none⟩ ∧ ∀ i, i < t.kids.length → W.cell? ⟨kb, ko + i * 4, none⟩ = some (.int .i64 (t.kids.getD i default).kind) ∧ W.cell? ⟨kb, ko + i * 4 + 1, none⟩ = some (.string (t.kids.getD i default).name) ∧ W.cell? ⟨kb, ko + i * 4 + 2, none⟩ = some (.int .i64 (t.kids.getD i default).num) ∧
    ∃ A' c', W.cell? ⟨kb, ko + i * 4 + 3, none⟩ = some (.slice A' (t.kids.getD i default).kids.length c') ∧ TmV W p (t.kids.getD i default) A' c' := by
  rcases h.row with h1 | ⟨kb, ko, h1, h2⟩
  · exact absurd h1 hk
  · refine ⟨kb, ko, h1, fun i hi => ?_⟩
    have h3 := h2.get i hi
    generalize t.kids.getD i default = u at h3 ⊢
    obtain ⟨k, s, n, ks⟩ := u
    rw [NodeAt] at h3
    obtain ⟨_, h4, h5, h6, h7, A', c', h8, h9⟩ := h3
    exact ⟨h5, h6, h7, A', c', h8, h4, h9⟩
def tx1 : ByteArray := ⟨#[97, 32, 98, 32, 99]⟩
def tx2 : ByteArray := ⟨#[108, 101, 116, 32, 120, 32, 61, 32, 49, 32, 105, 110, 32, 120, 32, 43, 32, 50, 32, 59, 32, 33, 99, 32, 58, 61, 32, 120]⟩
def tx3 : ByteArray := ⟨#[97, 32, 43, 32, 98, 32, 43, 32, 99]⟩
def tx4 : ByteArray := ⟨#[]⟩
def tx5 : ByteArray := ⟨#[105, 102, 32, 97, 32, 116, 104, 101, 110, 32, 98, 32, 101, 108, 115, 101, 32, 99, 32, 59, 32, 100]⟩
def tx6 : ByteArray := ⟨#[114, 97, 105, 115, 101, 32, 120, 32, 58, 61, 32, 50]⟩
theorem ts1 : ToldS tx1 exR1 0 := .inr (.inr ⟨exL1, by decide, by decide +kernel, ex1⟩)
theorem ts2 : ToldS tx2 exR2 0 := .inr (.inr ⟨exL2, by decide, by decide +kernel, ex2⟩)
theorem ts3 : ToldS tx3 T0 2 := .inr (.inr ⟨exL3, by decide, by decide +kernel, ex3⟩)
theorem ts4 : ToldS tx4 T0 2 := .inr (.inr ⟨[], by decide, by decide +kernel, ex4⟩)
theorem ts5 : ToldS tx5 exR5 0 := .inr (.inr ⟨exL5, by decide, by decide +kernel, ex5⟩)
theorem ts6 : ToldS tx6 exR6 0 := .inr (.inr ⟨exL6, by decide, by decide +kernel, ex6⟩)
end Go.Proofs.YtpdombmpmhnolaaGreatDoor.Pa
namespace Go.Proofs.YtpdombmpmhnolaaGreatDoor.Pa
open Go.RowKit Go.Shelf Go.Tm Go.Lx Go.Maps
attribute [local go_sem] Oper.semAt_some

theorem pk1 (w : World) (hE : EnvP w) : Calls Tryz.prog 15 #[.string ⟨#[97, 32, 98, 32, 99]⟩] w fun e w' => ∃ B d, e = .returned (.tuple #[.agg #[.int .i64 4, .string ⟨#[]⟩, .int .i64 0, .slice B 2 d], .int .i64 0]) ∧ Below w.heap.size w w' ∧ TmV w' (· < w'.heap.size) exR1 B d ∧ exR1.size ≤ 10000 := parse_ok ts1 w hE (by decide)
theorem pk2 (w : World) (hE : EnvP w) : Calls Tryz.prog 15 #[.string ⟨#[108, 101, 116, 32, 120, 32, 61, 32, 49, 32, 105, 110, 32, 120, 32, 43, 32, 50, 32, 59, 32, 33, 99, 32, 58, 61, 32, 120]⟩] w fun e w' => ∃ B d, e = .returned (.tuple #[.agg #[.int .i64 5, .string ⟨#[120]⟩, .int .i64 0, .slice B 2 d], .int .i64 0]) ∧ Below w.heap.size w w' ∧ TmV w' (· < w'.heap.size) exR2 B d ∧ exR2.size ≤ 10000 := parse_ok ts2 w hE (by decide)
theorem pk3 (w : World) (hE : EnvP w) : Calls Tryz.prog 15 #[.string ⟨#[97, 32, 43, 32, 98, 32, 43, 32, 99]⟩] w fun e w' => e = .returned (.tuple #[.agg #[.int .i64 0, .string ⟨#[]⟩, .int .i64 0, .slice none 0 0], .int .i64 2]) ∧ Below w.heap.size w w' := parse_no ts3 (by decide) w hE (by decide)
theorem pk4 (w : World) (hE : EnvP w) : Calls Tryz.prog 15 #[.string ⟨#[]⟩] w fun e w' => e = .returned (.tuple #[.agg #[.int .i64 0, .string ⟨#[]⟩, .int .i64 0, .slice none 0 0], .int .i64 2]) ∧ Below w.heap.size w w' := parse_no ts4 (by decide) w hE (by decide)
theorem pk5 (w : World) (hE : EnvP w) : Calls Tryz.prog 15 #[.string ⟨#[105, 102, 32, 97, 32, 116, 104, 101, 110, 32, 98, 32, 101, 108, 115, 101, 32, 99, 32, 59, 32, 100]⟩] w fun e w' => ∃ B d, e = .returned (.tuple #[.agg #[.int .i64 6, .string ⟨#[]⟩, .int .i64 0, .slice B 3 d], .int .i64 0]) ∧ Below w.heap.size w w' ∧ TmV w' (· < w'.heap.size) exR5 B d ∧ exR5.size ≤ 10000 := parse_ok ts5 w hE (by decide)
theorem pk6 (w : World) (hE : EnvP w) : Calls Tryz.prog 15 #[.string ⟨#[114, 97, 105, 115, 101, 32, 120, 32, 58, 61, 32, 50]⟩] w fun e w' => ∃ B d, e = .returned (.tuple #[.agg #[.int .i64 8, .string ⟨#[]⟩, .int .i64 0, .slice B 1 d], .int .i64 0]) ∧ Below w.heap.size w w' ∧ TmV w' (· < w'.heap.size) exR6 B d ∧ exR6.size ≤ 10000 := parse_ok ts6 w hE (by decide)
set_option maxRecDepth 100000 in
set_option maxHeartbeats 4000000 in
theorem examplesP_any (w : World) (hE : EnvP w) : Calls Tryz.prog 11 #[] w fun e w' => e = .returned (.bool true) ∧ Below w.heap.size w w' := by
  have hX0 := Lib.hid (Bx.new hE)
  clear hE
  go_enter Tryz.func11, Tryz.ntmps11
  have k1 := Lib.hid (pk1 w hX0.out.env)
  go_wp2_with fail
  refine k1.out.mono ?_
  rintro e u1 ⟨B1, d1, rfl, hb, hT, _⟩
  have hX1 := Lib.hid ((hX0.out.later hb).add hT)
  obtain ⟨W1, hW1⟩ : ∃ W, u1.alloc (.cells #[.int .i64 4, .string ⟨#[]⟩, .int .i64 0, .slice B1 2 d1] 26) = W := ⟨_, rfl⟩
  replace hX1 : Hid (Bx w (⟨exR1, B1, d1, u1.heap.size⟩ :: []) W1) := by rw [← hW1]; exact hX1
  replace hW1 := Lib.hid hW1
  clear hT hb k1 hX0
  have k2 := Lib.hid (pk2 W1 hX1.out.env)
  go_wp2_with fail
  rw [hW1.out]
  refine k2.out.mono ?_
  rintro e u2 ⟨B2, d2, rfl, hb, hT, _⟩
  have hX2 := Lib.hid ((hX1.out.later hb).add hT)
  obtain ⟨W2, hW2⟩ : ∃ W, u2.alloc (.cells #[.int .i64 5, .string ⟨#[120]⟩, .int .i64 0, .slice B2 2 d2] 26) = W := ⟨_, rfl⟩
  replace hX2 : Hid (Bx w (⟨exR2, B2, d2, u2.heap.size⟩ :: (⟨exR1, B1, d1, u1.heap.size⟩ :: [])) W2) := by rw [← hW2]; exact hX2
  replace hW2 := Lib.hid hW2
  clear hT hb k2 hX1
  have k3 := Lib.hid (pk3 W2 hX2.out.env)
  go_wp2_with fail
  rw [hW2.out]
  refine k3.out.mono ?_
  rintro e u3 ⟨rfl, hb⟩
  have hT := T0_at u3 (· < u3.heap.size)
  have hX3 := Lib.hid ((hX2.out.later hb).add hT)
  obtain ⟨W3, hW3⟩ : ∃ W, u3.alloc (.cells #[.int .i64 0, .string ⟨#[]⟩, .int .i64 0, .slice none 0 0] 26) = W := ⟨_, rfl⟩
  replace hX3 : Hid (Bx w (⟨T0, none, 0, u3.heap.size⟩ :: (⟨exR2, B2, d2, u2.heap.size⟩ :: (⟨exR1, B1, d1, u1.heap.size⟩ :: []))) W3) := by rw [← hW3]; exact hX3
  replace hW3 := Lib.hid hW3
  clear hT hb k3 hX2
  have k4 := Lib.hid (pk4 W3 hX3.out.env)
  go_wp2_with fail
  rw [hW3.out]
  refine k4.out.mono ?_
  rintro e u4 ⟨rfl, hb⟩
  have hT := T0_at u4 (· < u4.heap.size)
  have hX4 := Lib.hid ((hX3.out.later hb).add hT)
  obtain ⟨W4, hW4⟩ : ∃ W, u4.alloc (.cells #[.int .i64 0, .string ⟨#[]⟩, .int .i64 0, .slice none 0 0] 26) = W := ⟨_, rfl⟩
  replace hX4 : Hid (Bx w (⟨T0, none, 0, u4.heap.size⟩ :: (⟨T0, none, 0, u3.heap.size⟩ :: (⟨exR2, B2, d2, u2.heap.size⟩ :: (⟨exR1, B1, d1, u1.heap.size⟩ :: [])))) W4) := by rw [← hW4]; exact hX4
  replace hW4 := Lib.hid hW4
  clear hT hb k4 hX3
  have k5 := Lib.hid (pk5 W4 hX4.out.env)
  go_wp2_with fail
  rw [hW4.out]
  refine k5.out.mono ?_
  rintro e u5 ⟨B5, d5, rfl, hb, hT, _⟩
  have hX5 := Lib.hid ((hX4.out.later hb).add hT)
  obtain ⟨W5, hW5⟩ : ∃ W, u5.alloc (.cells #[.int .i64 6, .string ⟨#[]⟩, .int .i64 0, .slice B5 3 d5] 26) = W := ⟨_, rfl⟩
  replace hX5 : Hid (Bx w (⟨exR5, B5, d5, u5.heap.size⟩ :: (⟨T0, none, 0, u4.heap.size⟩ :: (⟨T0, none, 0, u3.heap.size⟩ :: (⟨exR2, B2, d2, u2.heap.size⟩ :: (⟨exR1, B1, d1, u1.heap.size⟩ :: []))))) W5) := by rw [← hW5]; exact hX5
  replace hW5 := Lib.hid hW5
  clear hT hb k5 hX4
  have k6 := Lib.hid (pk6 W5 hX5.out.env)
  go_wp2_with fail
  rw [hW5.out]
  refine k6.out.mono ?_
  rintro e u6 ⟨B6, d6, rfl, hb, hT, _⟩
  have hX6 := Lib.hid ((hX5.out.later hb).add hT)
  obtain ⟨W6, hW6⟩ : ∃ W, u6.alloc (.cells #[.int .i64 8, .string ⟨#[]⟩, .int .i64 0, .slice B6 1 d6] 26) = W := ⟨_, rfl⟩
  replace hX6 : Hid (Bx w (⟨exR6, B6, d6, u6.heap.size⟩ :: (⟨exR5, B5, d5, u5.heap.size⟩ :: (⟨T0, none, 0, u4.heap.size⟩ :: (⟨T0, none, 0, u3.heap.size⟩ :: (⟨exR2, B2, d2, u2.heap.size⟩ :: (⟨exR1, B1, d1, u1.heap.size⟩ :: [])))))) W6) := by rw [← hW6]; exact hX6
  clear hT hb k6 hX5
  have a1 : TB.At W6 ⟨exR1, B1, d1, u1.heap.size⟩ := hX6.out.at_ _ (by simp)
  have x1 : W6.heap[u1.heap.size]? = some (.cells #[.int .i64 4, .string ⟨#[]⟩, .int .i64 0, .slice B1 2 d1] 26 (0, 0)) := a1.box
  have c10 := cell_of_row W6 u1.heap.size 0 _ _ _ x1
  have c11 := cell_of_row W6 u1.heap.size 1 _ _ _ x1
  have c12 := cell_of_row W6 u1.heap.size 2 _ _ _ x1
  have c13 := cell_of_row W6 u1.heap.size 3 _ _ _ x1
  obtain ⟨kb1, ko1, rfl, hk1⟩ := TmV.kid (t := exR1) a1.tm (List.cons_ne_nil _ _)
  have a2 : TB.At W6 ⟨exR2, B2, d2, u2.heap.size⟩ := hX6.out.at_ _ (by simp)
  have x2 : W6.heap[u2.heap.size]? = some (.cells #[.int .i64 5, .string ⟨#[120]⟩, .int .i64 0, .slice B2 2 d2] 26 (0, 0)) := a2.box
  have c20 := cell_of_row W6 u2.heap.size 0 _ _ _ x2
  have c21 := cell_of_row W6 u2.heap.size 1 _ _ _ x2
  have c22 := cell_of_row W6 u2.heap.size 2 _ _ _ x2
  have c23 := cell_of_row W6 u2.heap.size 3 _ _ _ x2
  obtain ⟨kb2, ko2, rfl, hk2⟩ := TmV.kid (t := exR2) a2.tm (List.cons_ne_nil _ _)
  have a5 : TB.At W6 ⟨exR5, B5, d5, u5.heap.size⟩ := hX6.out.at_ _ (by simp)
  have x5 : W6.heap[u5.heap.size]? = some (.cells #[.int .i64 6, .string ⟨#[]⟩, .int .i64 0, .slice B5 3 d5] 26 (0, 0)) := a5.box
  have c50 := cell_of_row W6 u5.heap.size 0 _ _ _ x5
  have c51 := cell_of_row W6 u5.heap.size 1 _ _ _ x5
  have c52 := cell_of_row W6 u5.heap.size 2 _ _ _ x5
  have c53 := cell_of_row W6 u5.heap.size 3 _ _ _ x5
  obtain ⟨kb5, ko5, rfl, hk5⟩ := TmV.kid (t := exR5) a5.tm (List.cons_ne_nil _ _)
  have a6 : TB.At W6 ⟨exR6, B6, d6, u6.heap.size⟩ := hX6.out.at_ _ (by simp)
  have x6 : W6.heap[u6.heap.size]? = some (.cells #[.int .i64 8, .string ⟨#[]⟩, .int .i64 0, .slice B6 1 d6] 26 (0, 0)) := a6.box
  have c60 := cell_of_row W6 u6.heap.size 0 _ _ _ x6
  have c61 := cell_of_row W6 u6.heap.size 1 _ _ _ x6
  have c62 := cell_of_row W6 u6.heap.size 2 _ _ _ x6
  have c63 := cell_of_row W6 u6.heap.size 3 _ _ _ x6
  obtain ⟨kb6, ko6, rfl, hk6⟩ := TmV.kid (t := exR6) a6.tm (List.cons_ne_nil _ _)
  obtain ⟨e10, _, _, _⟩ := hk1 0 (by show 0 < 2; decide)
  obtain ⟨_, e11, _, _⟩ := hk1 1 (by show 1 < 2; decide)
  obtain ⟨e20, _, _, A2, c2, e23, h23⟩ := hk2 1 (by show 1 < 2; decide)
  obtain ⟨kb22, ko22, rfl, hk22⟩ := TmV.kid h23 (List.cons_ne_nil _ _)
  obtain ⟨e24, _, _, _⟩ := hk22 1 (by show 1 < 2; decide)
  obtain ⟨e50, _, _, _⟩ := hk5 2 (by show 2 < 3; decide)
  obtain ⟨e60, _, _, _⟩ := hk6 0 (by show 0 < 1; decide)
  change W6.cell? ⟨kb1, ko1 + 0 * 4, none⟩ = some (.int .i64 4) at e10
  change W6.cell? ⟨kb1, ko1 + 1 * 4 + 1, none⟩ = some (.string ⟨#[99]⟩) at e11
  change W6.cell? ⟨kb2, ko2 + 1 * 4, none⟩ = some (.int .i64 13) at e20
  change W6.cell? ⟨kb2, ko2 + 1 * 4 + 3, none⟩ = some (.slice (some ⟨kb22, ko22, none⟩) 2 c2) at e23
  change W6.cell? ⟨kb22, ko22 + 1 * 4, none⟩ = some (.int .i64 11) at e24
  change W6.cell? ⟨kb5, ko5 + 2 * 4, none⟩ = some (.int .i64 13) at e50
  change W6.cell? ⟨kb6, ko6 + 0 * 4, none⟩ = some (.int .i64 11) at e60
  replace x1 := Lib.hid x1
  clear hk1 a1
  replace x2 := Lib.hid x2
  clear hk2 a2
  replace x5 := Lib.hid x5
  clear hk5 a5
  replace x6 := Lib.hid x6
  clear hk6 a6
  clear hk22 h23
  simp only [Nat.zero_mul, Nat.one_mul, Nat.add_zero, Nat.reduceMul, Nat.add_assoc, Nat.reduceAdd] at e10 e11 e20 e23 e24 e50 e60
  go_wp2_with fail
  go_ret
  exact ⟨rfl, hX6.out.below⟩
end Go.Proofs.YtpdombmpmhnolaaGreatDoor.Pa
namespace Go.Proofs.YtpdombmpmhnolaaGreatDoor.Pa
open Go.RowKit Go.Shelf Go.Tm Go.Lx Go.Maps

theorem showS_right {t : Go.Tm.T} (h : rightT t = true) : showS t = X.strOf (printL (toksT t)) := by unfold showS; rw [if_pos h]
theorem showT_right {t : Go.Tm.T} (h : rightT t = true) : showT t = toksT t := by unfold showT; rw [if_pos h]
theorem size_show {t : Go.Tm.T} (h : rightT t = true) : (showS t).size = (printL (toksT t)).length := by rw [showS_right h]; rfl
/-- a right term: what is told of what is shown of it -/
theorem told_show {t : Go.Tm.T} (h : rightT t = true) (hl : (printL (toksT t)).length ≤ 65536) : ToldS (showS t) t 0 := by
  obtain ⟨h1, h2, h3⟩ := rt_parts h
  refine .inr (.inr ⟨toksT t, by rw [size_show h]; exact hl, ?_, told_back h⟩)
  rw [showS_right h, X.data_strOf]
  exact lexL_print (toksT t) (toks_right h1)
theorem small_right {t : Go.Tm.T} (h : Rt t) (hs : t.size ≤ 181) (hd : t.depth ≤ 7) : rightT t = true := right_of h (by omega) (by omega)
theorem small_told {t : Go.Tm.T} (h : Rt t) (hs : t.size ≤ 181) (hd : t.depth ≤ 7) : ToldS (showS t) t 0 ∧ (showS t).size ≤ 18462 := by
  have h1 := small_right h hs hd
  have h2 := show_len h
  exact ⟨told_show h1 (by omega), by rw [size_show h1]; omega⟩
theorem toksP_ok {l : List Tok} {t : Go.Tm.T} (h : Told l t 0) (A : Option Addr) (c : Nat) (w : World) (hE : EnvP w) (hU : X.Toks w w.heap.size A l) (hsh : X.Short l) (hl : l.length ≤ 1000000000) :
    Calls Tryz.prog 12 #[.slice A l.length c] w fun e w' => ∃ B d, e = .returned (.tuple #[.agg #[.int .i64 t.kind, .string t.name, .int .i64 t.num, .slice B t.kids.length d], .int .i64 0]) ∧ Below w.heap.size w w' ∧ TmV w' (· < w'.heap.size) t B d ∧ t.size ≤ 10000 :=
  (toksP_any A l c w hE hU hsh hl).mono fun e w' ⟨hb, ho⟩ => by
    rcases ho with ⟨u, B, d, h1, h2, h3, h4⟩ | ⟨n, h1, h2, h3⟩
    · obtain ⟨rfl, _⟩ := told_one h h1
      exact ⟨B, d, h3, hb, h4.kept (fun _ hb => hb.2) (fun _ _ => rfl), h2⟩
    · obtain ⟨_, e⟩ := told_one h h2
      omega
theorem toks_short9 {t : Go.Tm.T} (h : Rt t) : X.Short (toksT t) := fun j => by
  by_cases hj : j < (toksT t).length
  · rw [List.getD_eq_getElem?_getD, List.getElem?_eq_getElem hj]
    have := toks_short h _ (List.getElem_mem hj)
    simp only [Option.getD_some]; omega
  · rw [List.getD_eq_getElem?_getD, List.getElem?_eq_none (by omega)]; show (0 : Nat) ≤ _; omega
end Go.Proofs.YtpdombmpmhnolaaGreatDoor.Pa
namespace Go.Proofs.YtpdombmpmhnolaaGreatDoor.Pa
open Go.RowKit Go.Shelf Go.Tm Go.Lx

theorem pr_one (x : Tok) : printL [x] = x.text := by
  unfold printL; rw [List.map_cons, List.map_nil, Lib.join_one]
theorem pr_cons (x : Tok) {l : List Tok} (h : l ≠ []) : printL (x :: l) = x.text ++ 32 :: printL l := by
  cases l with
  | nil => exact absurd rfl h
  | cons y l => unfold printL; rw [List.map_cons, List.map_cons, Lib.join_cons, Lib.join_cons]; simp [Lib.joinTail]
theorem pr_app {b : List Tok} (hb : b ≠ []) : ∀ {a : List Tok}, a ≠ [] → printL (a ++ b) = printL a ++ 32 :: printL b
  | [], h => absurd rfl h
  | [x], _ => by rw [pr_one, List.singleton_append, pr_cons x hb]
  | x :: y :: a, _ => by
    rw [List.cons_append, pr_cons x (by simp), pr_app hb (a := y :: a) (by simp), pr_cons x (by simp), List.append_assoc, List.cons_append]
theorem strOf_app (a b : List UInt8) : X.strOf (a ++ b) = X.strOf a ++ X.strOf b := by
  apply ByteArray.ext
  rw [ByteArray.data_append]
  show (a ++ b).toArray = a.toArray ++ b.toArray
  rw [List.append_toArray]
def pS (l : List Tok) : ByteArray := X.strOf (printL l)
theorem pS_size (l : List Tok) : (pS l).size = (printL l).length := rfl
theorem show_pS {t : Go.Tm.T} (h : rightT t = true) : showS t = pS (toksT t) := showS_right h
theorem parL_print {l : List Tok} (h : l ≠ []) : printL (parL l) = [40, 32] ++ (printL l ++ [32, 41]) := by
  unfold parL
  rw [pr_cons _ (by simp), pr_app (by simp) h, pr_one]; rfl
theorem ahead_print {l : List Tok} (h : l ≠ []) : printL (mTok [40] :: l) = [40, 32] ++ printL l := by
  rw [pr_cons _ h]; rfl
theorem behind_print {l : List Tok} (h : l ≠ []) : printL (l ++ [mTok [41]]) = printL l ++ [32, 41] := by
  rw [pr_app (by simp) h, pr_one]; rfl
theorem parL_pS {l : List Tok} (h : l ≠ []) : (⟨#[40, 32]⟩ ++ pS l) ++ ⟨#[32, 41]⟩ = pS (parL l) := by
  unfold pS
  rw [parL_print h, strOf_app, strOf_app, ByteArray.append_assoc]; rfl
theorem ahead_pS {l : List Tok} (h : l ≠ []) : ⟨#[40, 32]⟩ ++ pS l = pS (mTok [40] :: l) := by
  unfold pS
  rw [ahead_print h, strOf_app]; rfl
theorem behind_pS {l : List Tok} (h : l ≠ []) : pS l ++ ⟨#[32, 41]⟩ = pS (l ++ [mTok [41]]) := by
  unfold pS
  rw [behind_print h, strOf_app]; rfl
theorem parN_ne {l : List Tok} (h : l ≠ []) : ∀ n, parN n l ≠ []
  | 0 => h
  | _ + 1 => by unfold parN parL; simp
theorem parN_size {l : List Tok} (h : l ≠ []) : ∀ n, (pS (parN n l)).size = (pS l).size + 4 * n
  | 0 => rfl
  | n + 1 => by
    have := parN_size h n
    rw [pS_size] at this ⊢
    unfold parN
    rw [parL_print (parN_ne h n)]
    simp only [List.length_append, List.length_cons, List.length_nil]
    omega
theorem toks_ne {t : Go.Tm.T} (h : Rt t) : toksT t ≠ [] := fun e => by
  have := (toks_len h).2
  rw [e] at this
  simp at this
theorem toldS_print {l : List Tok} {t : Go.Tm.T} {n : Nat} (hr : Go.Lx.rightL l = true) (hl : (pS l).size ≤ 65536) (h : Told l t n) : ToldS (pS l) t n :=
  .inr (.inr ⟨l, hl, by unfold pS; rw [X.data_strOf]; exact lexL_print l hr, h⟩)
def seqL3 (a b c : List Tok) : List Tok := parL a ++ mTok [59] :: (parL b ++ mTok [59] :: c)
theorem seq_print {a b c : List Tok} (ha : a ≠ []) (hb : b ≠ []) (hc : c ≠ []) : printL (seqL3 a b c) = [40, 32] ++ (printL a ++ ([32, 41, 32, 59, 32, 40, 32] ++ (printL b ++ ([32, 41, 32, 59, 32] ++ printL c)))) := by
  unfold seqL3
  rw [pr_app (by simp) (by unfold parL; simp), pr_cons _ (by unfold parL; simp), pr_app (by simp) (by unfold parL; simp), pr_cons _ hc, parL_print ha, parL_print hb]
  simp [mTok]
theorem seq_pS {a b c : List Tok} (ha : a ≠ []) (hb : b ≠ []) (hc : c ≠ []) : ((((⟨#[40, 32]⟩ ++ pS a) ++ ⟨#[32, 41, 32, 59, 32, 40, 32]⟩) ++ pS b) ++ ⟨#[32, 41, 32, 59, 32]⟩) ++ pS c = pS (seqL3 a b c) := by
  unfold pS
  rw [seq_print ha hb hc]
  simp only [strOf_app, ByteArray.append_assoc]
  rfl
theorem right_cons {x : Tok} {l : List Tok} (hx : Go.Lx.rightL [x] = true) (hl : Go.Lx.rightL l = true) : Go.Lx.rightL (x :: l) = true := right_app hx hl
theorem right_seqL3 {a b c : List Tok} (ha : Go.Lx.rightL a = true) (hb : Go.Lx.rightL b = true) (hc : Go.Lx.rightL c = true) : Go.Lx.rightL (seqL3 a b c) = true :=
  right_app (right_par ha) (right_cons (by decide +kernel) (right_app (right_par hb) (right_cons (by decide +kernel) hc)))
/-- a text in parentheses set close -/
def cS (l : List Tok) : ByteArray := (⟨#[40]⟩ ++ pS l) ++ ⟨#[41]⟩
theorem cS_list (l : List Tok) : (cS l).data.toList = 40 :: (printL l ++ [41]) := by
  unfold cS
  rw [ByteArray.data_append, ByteArray.data_append, Array.toList_append, Array.toList_append]
  show (([40] : List UInt8) ++ (X.strOf (printL l)).data.toList) ++ [41] = _
  rw [X.data_strOf]; rfl
theorem cS_size (l : List Tok) : (cS l).size = (pS l).size + 2 := by
  unfold cS
  rw [ByteArray.size_append, ByteArray.size_append]
  show 1 + (pS l).size + 1 = _
  omega
theorem cS_lex {l : List Tok} (h0 : l ≠ []) (h : Go.Lx.rightL l = true) (b : List UInt8) {k : List Tok} (hb : lexL b = some k) : lexL ((cS l).data.toList ++ b) = some (parL l ++ k) := by
  rw [cS_list, List.cons_append, List.append_assoc, List.singleton_append, lex_paren l b h0 h, hb]
  unfold parL
  simp
end Go.Proofs.YtpdombmpmhnolaaGreatDoor.Pa
