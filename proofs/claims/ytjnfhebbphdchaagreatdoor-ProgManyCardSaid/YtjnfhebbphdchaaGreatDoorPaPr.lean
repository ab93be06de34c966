/-
  Terms by value, each in a box: what the walks of chapter 5's laws carry. No condition.
  What parse.Parse answers where what is told of the text is known;
  The walk of chapter 5's examples:
  What the walks of chapter 5's laws share:
  Texts of tokens put one behind another.
-/
import Derived.Test.YtjnfhebbphdchaaGreatDoorPaToks
import Derived.Test.YtjnfhebbphdchaaGreatDoorLxLex
import Derived.Test.YtjnfhebbphdchaaGreatDoorShMade
import Derived.Test.YtjnfhebbphdchaaGreatDoorShShow
import Derived.Test.YtjnfhebbphdchaaGreatDoorTmSame
import Derived.Test.YtjnfhebbphdchaaGreatDoorPaMath
set_option maxHeartbeats 4000000
set_option maxRecDepth 100000
open Go.Lib (hid)
namespace Go.Proofs.YtjnfhebbphdchaaGreatDoor.Pa
open Go.RowKit Go.Shelf Go.Tm Go.Lx Go.Maps
theorem TmV.wide {W : World} {n : Nat} {t : Go.Tm.T} {A : Option Addr} {c : Nat} (h : TmV W (fun k => n <= k /\ k < W.heap.size) t A c) : TmV W (· < W.heap.size) t A c := h.kept (fun _ hk => hk.2) (fun _ _ => rfl)
def ToldS (s : ByteArray) (t : Go.Tm.T) (n : Nat) : Prop := (65536 < s.size /\ t = T0 /\ n = 1) ∨ (s.size <= 65536 /\ lexL s.data.toList = none /\ t = T0 /\ n = 2) ∨ ∃ l, s.size <= 65536 /\ lexL s.data.toList = some l /\ Told l t n
def qbF (s : ByteArray) (w : World) (e : Ending) (w' : World) : Prop :=
 Below w.heap.size w w' /\ ((∃ t B d, ToldS s t 0 /\ t.size <= 10000 /\ e = .returned (.tuple #[tmV t B d, .int .i64 0]) /\ TmV w' (· < w'.heap.size) t B d)
   ∨ ∃ n : Nat, (n = 1 ∨ n = 2) /\ ToldS s T0 n /\ e = .returned (.tuple #[noV, .int .i64 n]))
theorem qoV : ∀ (l : List Tok), (l.length : Int) <= len2 l /\ ∀ x ∈ l, (x.text.length : Int) <= len2 l
 | [] => ⟨by rw [qbi]; exact Int.le_refl _, fun _ h => by cases h⟩
 | y :: l => by
   obtain ⟨h1, h2⟩ := qoV l
   rw [qaq, List.length_cons]
   have h3 := qfr l
   refine ⟨by omega, fun x hx => ?_⟩
   rcases List.mem_cons.1 hx with rfl | hx
   . omega
   . have := h2 x hx; omega
theorem qha {s : ByteArray} {l : List Tok} (hs : s.size <= 65536) (h : lexL s.data.toList = some l) : l.length <= 131072 /\ X.Short l := by
 have h1 := qlF _ s.data.toList (Nat.le_refl _) l h
 have h2 := qoV l
 have h3 : s.data.toList.length = s.size := by simp
 refine ⟨by omega, fun j => ?_⟩
 by_cases hj : j < l.length
 . rw [List.getD_eq_getElem?_getD, List.getElem?_eq_getElem hj, Option.getD_some]
   have := h2.2 _ (List.getElem_mem hj)
   omega
 . rw [List.getD_eq_getElem?_getD, List.getElem?_eq_none (by omega)]; show (0 : Nat) <= _; omega
theorem qhb (s : ByteArray) (w : World) (hE : EnvP w) (hm : s.size <= 9223372036854775807) : Calls Tryz.prog 24 #[.string s] w (qbF s w) := by
 obtain ⟨W1, hW1⟩ : ∃ W, w.alloc (.cells #[.int .i64 0, .string ⟨#[]⟩, .int .i64 0, .slice none 0 0] 26) = W := ⟨_, rfl⟩
 have hX := BxW.new w
 have hb1 := X.qab w (.cells #[.int .i64 0, .string ⟨#[]⟩, .int .i64 0, .slice none 0 0] 26)
 rw [hW1] at hX hb1
 have kl := hid (X.qoN s W1 (hE.later hb1).s.lx hm)
 have kt := hid (fun (W : World) (hb : Below w.heap.size w W) (A : Option Addr) (l : List Tok) (c : Nat) (hU : X.Toks W W.heap.size A l) (hs : s.size <= 65536) (h : lexL s.data.toList = some l) => qeN A l c W (hE.later hb) hU (qha hs h).2 (by have := (qha hs h).1; omega))
 replace hE := hid hE
 replace hX := hid hX
 replace hb1 := hid hb1
 replace hW1 := hid hW1
 clear hm
 go_enter Tryz.func24, Tryz.ntmps24
 go_wp2_with fail
 rw [hW1.out]
 refine kl.out.mono ?_
 rintro e w2 ⟨hb2, ho⟩
 have hX2 := hid (hX.out.later hb2)
 clear hX hb1 kl hb2
 rcases ho with ⟨h1, rfl⟩ | ⟨h1, h2, rfl⟩ | ⟨h1, l, A, c, h2, rfl, hU, _, _, _⟩
 . have ht : ToldS s T0 1 := .inl ⟨h1, rfl, rfl⟩
   replace ht := hid ht
   clear h1 kt
   have hr9 := hX2.out.box
   have f0 := qac hr9 0
   have f1 := qac hr9 1
   have f2 := qac hr9 2
   have f3 := qac hr9 3
   have g0 := qaa w2 w.heap.size 0 _ _ _ hr9
   have g1 := qaa w2 w.heap.size 1 _ _ _ hr9
   have g2 := qaa w2 w.heap.size 2 _ _ _ hr9
   have g3 := qaa w2 w.heap.size 3 _ _ _ hr9
   have s9 := qbr (v0 := .int .i64 0) (v1 := .string ⟨#[]⟩) (v2 := .int .i64 0) (v3 := .slice none 0 0) hr9
   have s0 := qaa _ w.heap.size 0 _ _ _ s9
   have s1 := qaa _ w.heap.size 1 _ _ _ s9
   have s2 := qaa _ w.heap.size 2 _ _ _ s9
   have s3 := qaa _ w.heap.size 3 _ _ _ s9
   unfold set4 at s0 s1 s2 s3
   have hend : Hid (qbF s w (.returned (.tuple #[noV, (.int .i64 1)])) (set4 w2 w.heap.size (.int .i64 0) (.string ⟨#[]⟩) (.int .i64 0) (.slice none 0 0))) := ⟨qaV hX2.out.below (Nat.le_refl _), .inr ⟨1, .inl rfl, ht.out, rfl⟩⟩
   unfold noV at hend
   unfold set4 at hend
   replace hr9 := hid hr9
   replace s9 := hid s9
   have hres : Tryz.f24.results = #[.cell 2 26, .tmp 3] := by kernel_rfl
   replace hres := hid hres
   go_wp2_with fail
   refine bodyPost_ret (v := .tuple #[.agg #[.int .i64 0, .string ⟨#[]⟩, .int .i64 0, .slice none 0 0], (.int .i64 1)]) ?_ rfl hend.out
   simp only [results, hres.out]
   go_simp
   try rfl
 . have ht : ToldS s T0 2 := .inr (.inl ⟨h1, h2, rfl, rfl⟩)
   replace ht := hid ht
   clear h1 h2 kt
   have hr9 := hX2.out.box
   have f0 := qac hr9 0
   have f1 := qac hr9 1
   have f2 := qac hr9 2
   have f3 := qac hr9 3
   have g0 := qaa w2 w.heap.size 0 _ _ _ hr9
   have g1 := qaa w2 w.heap.size 1 _ _ _ hr9
   have g2 := qaa w2 w.heap.size 2 _ _ _ hr9
   have g3 := qaa w2 w.heap.size 3 _ _ _ hr9
   have s9 := qbr (v0 := .int .i64 0) (v1 := .string ⟨#[]⟩) (v2 := .int .i64 0) (v3 := .slice none 0 0) hr9
   have s0 := qaa _ w.heap.size 0 _ _ _ s9
   have s1 := qaa _ w.heap.size 1 _ _ _ s9
   have s2 := qaa _ w.heap.size 2 _ _ _ s9
   have s3 := qaa _ w.heap.size 3 _ _ _ s9
   unfold set4 at s0 s1 s2 s3
   have hend : Hid (qbF s w (.returned (.tuple #[noV, (.int .i64 2)])) (set4 w2 w.heap.size (.int .i64 0) (.string ⟨#[]⟩) (.int .i64 0) (.slice none 0 0))) := ⟨qaV hX2.out.below (Nat.le_refl _), .inr ⟨2, .inr rfl, ht.out, rfl⟩⟩
   unfold noV at hend
   unfold set4 at hend
   replace hr9 := hid hr9
   replace s9 := hid s9
   have hres : Tryz.f24.results = #[.cell 2 26, .tmp 3] := by kernel_rfl
   replace hres := hid hres
   go_wp2_with fail
   refine bodyPost_ret (v := .tuple #[.agg #[.int .i64 0, .string ⟨#[]⟩, .int .i64 0, .slice none 0 0], (.int .i64 2)]) ?_ rfl hend.out
   simp only [results, hres.out]
   go_simp
   try rfl
 . have hto := hid (fun (t : Go.Tm.T) (n : Nat) (h : Told l t n) => (show ToldS s t n from .inr (.inr ⟨l, h1, h2, h⟩)))
   replace kt := hid (kt.out w2 hX2.out.below A l c hU h1 h2)
   have hz3 := hid hX2.out.below.size
   clear h1 h2 hU
   obtain ⟨L, hL⟩ : ∃ n, l.length = n := ⟨_, rfl⟩
   rw [hL] at kt ⊢
   replace hL := hid hL
   go_wp2_with fail
   refine kt.out.mono ?_
   rintro e w4 ⟨hb4, ho⟩
   have hX4 := hid (hX2.out.later hb4)
   clear kt hX2 hb4
   rcases ho with ⟨t, B, d, ht, hsz, rfl, hT⟩ | ⟨n, hn2, ht, rfl⟩
   . replace ht := hid (hto.out _ _ ht)
     replace hsz := hid hsz
     replace hT : Hid (TmV w4 (fun b => w.heap.size < b /\ b < w4.heap.size) t B d) := hT.kept (fun b hb => ⟨Nat.lt_of_le_of_lt hz3.out hb.1, hb.2⟩) (fun _ _ => rfl)
     unfold tmV
     have hr9 := hX4.out.box
     have f0 := qac hr9 0
     have f1 := qac hr9 1
     have f2 := qac hr9 2
     have f3 := qac hr9 3
     have g0 := qaa w4 w.heap.size 0 _ _ _ hr9
     have g1 := qaa w4 w.heap.size 1 _ _ _ hr9
     have g2 := qaa w4 w.heap.size 2 _ _ _ hr9
     have g3 := qaa w4 w.heap.size 3 _ _ _ hr9
     have s9 := qbr (v0 := .int .i64 t.kind) (v1 := .string t.name) (v2 := .int .i64 t.num) (v3 := .slice B t.kids.length d) hr9
     have s0 := qaa _ w.heap.size 0 _ _ _ s9
     have s1 := qaa _ w.heap.size 1 _ _ _ s9
     have s2 := qaa _ w.heap.size 2 _ _ _ s9
     have s3 := qaa _ w.heap.size 3 _ _ _ s9
     unfold set4 at s0 s1 s2 s3
     have hend : Hid (qbF s w (.returned (.tuple #[tmV t B d, .int .i64 0])) (set4 w4 w.heap.size (.int .i64 t.kind) (.string t.name) (.int .i64 t.num) (.slice B t.kids.length d))) := ⟨qaV hX4.out.below (Nat.le_refl _), .inl ⟨t, B, d, ht.out, hsz.out, rfl, hT.out.kept (fun b hb => by rw [qgO]; exact hb.2) (fun b hb => qfs (by omega))⟩⟩
     unfold set4 at hend
     replace hr9 := hid hr9
     replace s9 := hid s9
     have hres : Tryz.f24.results = #[.cell 2 26, .tmp 3] := by kernel_rfl
     replace hres := hid hres
     go_wp2_with fail
     refine bodyPost_ret (v := .tuple #[.agg #[.int .i64 t.kind, .string t.name, .int .i64 t.num, .slice B t.kids.length d], .int .i64 0]) ?_ rfl hend.out
     simp only [results, hres.out]
     go_simp
   . replace ht := hid (hto.out _ _ ht)
     replace hn2 := hid hn2
     unfold noV
     have hr9 := hX4.out.box
     have f0 := qac hr9 0
     have f1 := qac hr9 1
     have f2 := qac hr9 2
     have f3 := qac hr9 3
     have g0 := qaa w4 w.heap.size 0 _ _ _ hr9
     have g1 := qaa w4 w.heap.size 1 _ _ _ hr9
     have g2 := qaa w4 w.heap.size 2 _ _ _ hr9
     have g3 := qaa w4 w.heap.size 3 _ _ _ hr9
     have s9 := qbr (v0 := .int .i64 0) (v1 := .string ⟨#[]⟩) (v2 := .int .i64 0) (v3 := .slice none 0 0) hr9
     have s0 := qaa _ w.heap.size 0 _ _ _ s9
     have s1 := qaa _ w.heap.size 1 _ _ _ s9
     have s2 := qaa _ w.heap.size 2 _ _ _ s9
     have s3 := qaa _ w.heap.size 3 _ _ _ s9
     unfold set4 at s0 s1 s2 s3
     have hend : Hid (qbF s w (.returned (.tuple #[noV, (.int .i64 n)])) (set4 w4 w.heap.size (.int .i64 0) (.string ⟨#[]⟩) (.int .i64 0) (.slice none 0 0))) := ⟨qaV hX4.out.below (Nat.le_refl _), .inr ⟨n, hn2.out, ht.out, rfl⟩⟩
     unfold noV at hend
     unfold set4 at hend
     replace hr9 := hid hr9
     replace s9 := hid s9
     have hres : Tryz.f24.results = #[.cell 2 26, .tmp 3] := by kernel_rfl
     replace hres := hid hres
     go_wp2_with fail
     refine bodyPost_ret (v := .tuple #[.agg #[.int .i64 0, .string ⟨#[]⟩, .int .i64 0, .slice none 0 0], (.int .i64 n)]) ?_ rfl hend.out
     simp only [results, hres.out]
     go_simp
     try rfl
theorem TmV.kid {W : World} {p : Nat -> Prop} {t : Go.Tm.T} {A : Option Addr} {c : Nat} (h : TmV W p t A c) (hk : t.kids ≠ []) : ∃ kb ko, A = some ⟨kb, ko, none⟩ /\ ∀ i, i < t.kids.length -> W.cell? ⟨kb, ko + i * 4, none⟩ = some (.int .i64 (t.kids.getD i default).kind) /\ W.cell? ⟨kb, ko + i * 4 + 1, none⟩ = some (.string (t.kids.getD i default).name) /\ W.cell? ⟨kb, ko + i * 4 + 2, none⟩ = some (.int .i64 (t.kids.getD i default).num) ∧
   ∃ A' c', W.cell? ⟨kb, ko + i * 4 + 3, none⟩ = some (.slice A' (t.kids.getD i default).kids.length c') /\ TmV W p (t.kids.getD i default) A' c' := by
 rcases h.row with h1 | ⟨kb, ko, h1, h2⟩
 . exact absurd h1 hk
 . refine ⟨kb, ko, h1, fun i hi => ?_⟩
   have h3 := h2.get i hi
   generalize t.kids.getD i default = u at h3 ⊢
   obtain ⟨k, s, n, ks⟩ := u
   rw [qan] at h3
   obtain ⟨_, h4, h5, h6, h7, A', c', h8, h9⟩ := h3
   exact ⟨h5, h6, h7, A', c', h8, h4, h9⟩
end Go.Proofs.YtjnfhebbphdchaaGreatDoor.Pa
namespace Go.Proofs.YtjnfhebbphdchaaGreatDoor.Pa
open Go.RowKit Go.Shelf Go.Tm Go.Lx Go.Maps
attribute [local go_sem] Oper.semAt_some
end Go.Proofs.YtjnfhebbphdchaaGreatDoor.Pa
namespace Go.Proofs.YtjnfhebbphdchaaGreatDoor.Pa
open Go.RowKit Go.Shelf Go.Tm Go.Lx Go.Maps
theorem qhc {t : Go.Tm.T} (h : qai t = true) : showS t = X.strOf (qaS (toksT t)) := by unfold showS; rw [if_pos h]
end Go.Proofs.YtjnfhebbphdchaaGreatDoor.Pa
namespace Go.Proofs.YtjnfhebbphdchaaGreatDoor.Pa
open Go.RowKit Go.Shelf Go.Tm Go.Lx
theorem qoW (x : Tok) : qaS [x] = x.text := by
 unfold qaS; rw [List.map_cons, List.map_nil, Lib.join_one]
theorem qcl (x : Tok) {l : List Tok} (h : l ≠ []) : qaS (x :: l) = x.text ++ 32 :: qaS l := by
 cases l with
 | nil => exact absurd rfl h
 | cons y l => unfold qaS; rw [List.map_cons, List.map_cons, Lib.join_cons, Lib.join_cons]; simp [Lib.joinTail]
theorem qrm {b : List Tok} (hb : b ≠ []) : ∀ {a : List Tok}, a ≠ [] -> qaS (a ++ b) = qaS a ++ 32 :: qaS b
 | [], h => absurd rfl h
 | [x], _ => by rw [qoW, List.singleton_append, qcl x hb]
 | x :: y :: a, _ => by
   rw [List.cons_append, qcl x (by simp), qrm hb (a := y :: a) (by simp), qcl x (by simp), List.append_assoc, List.cons_append]
theorem qbw (a b : List UInt8) : X.strOf (a ++ b) = X.strOf a ++ X.strOf b := by
 apply ByteArray.ext
 rw [ByteArray.data_append]
 show (a ++ b).toArray = a.toArray ++ b.toArray
 rw [List.append_toArray]
theorem qiF {t : Go.Tm.T} (h : Rt t) : toksT t ≠ [] := fun e => by
 have := (qeu h).2
 rw [e] at this
 simp at this
end Go.Proofs.YtjnfhebbphdchaaGreatDoor.Pa
