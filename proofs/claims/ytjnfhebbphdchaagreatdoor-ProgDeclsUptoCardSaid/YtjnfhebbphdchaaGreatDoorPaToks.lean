/-
  A reader that has read nothing, as it is laid; how a reading ends. No condition.
  read:
  What parse.nesting counts is nestI.
  parse.Toks:
-/
import Derived.Test.YtjnfhebbphdchaaGreatDoorPaRun
import Derived.Test.YtjnfhebbphdchaaGreatDoorPaIs
import Derived.Test.YtjnfhebbphdchaaGreatDoorPaMath
import Derived.Test.YtjnfhebbphdchaaGreatDoorShShow
import Derived.Test.YtjnfhebbphdchaaGreatDoorPaSteps
import Derived.Stop.IfaceNil
import Derived.Test.YtjnfhebbphdchaaGreatDoorPaAhead
import Derived.Test.YtjnfhebbphdchaaGreatDoorLxLex
set_option maxHeartbeats 4000000
set_option maxRecDepth 100000
open Go.Lib (hid)
namespace Go.Proofs.YtjnfhebbphdchaaGreatDoor.Pa
open Go.RowKit Go.Shelf Go.Tm Go.Lx
def E9 (w : World) : PE := fun x => if x = w.heap.size then some (.cells #[.int .i64 0, .string ⟨#[]⟩, .int .i64 0, .slice none 0 0] 26 (0, 0)) else (w.heap[x]?).filter fun o => o.isCells
theorem qsj {w W : World} (hb : Below w.heap.size w W) (hx : W.heap[w.heap.size]? = some (.cells #[.int .i64 0, .string ⟨#[]⟩, .int .i64 0, .slice none 0 0] 26 (0, 0))) {x : Nat} {o : Obj} (h : E9 w x = some o) : W.heap[x]? = some o /\ o.isCells = true := by
 unfold E9 at h
 split at h
 . rename_i e; cases h; rw [e]; exact ⟨hx, rfl⟩
 . obtain ⟨h1, h2⟩ := Option.filter_eq_some_iff.1 h
   exact ⟨(hb.block _ (World.lt_of_get h1)).trans h1, h2⟩
theorem qsk {w W : World} (hb : Below w.heap.size w W) {x : Nat} {o : Obj} (ho : W.heap[x]? = some o) (hc : o.isCells = true) (h : E9 w x = none) : w.heap.size < x := by
 unfold E9 at h
 split at h
 . cases h
 . rename_i hne
   rcases Nat.lt_or_ge x w.heap.size with hlt | hge
   . rw [hb.block _ hlt] at ho
     rw [ho] at h
     simp [hc] at h
   . omega
theorem qiD (W : World) (base size : Nat) (e : TypeId) : W.ownsRow base e size (.slice none 0 0) 0 [] := ⟨by simp, .inl ⟨rfl, rfl⟩⟩
theorem qsl (A : Option Addr) (l : List Tok) (c : Nat) (w : World) (hU : X.Toks w w.heap.size A l) (hl : l.length <= 140737488355328) (E0 : PE) (hE : ∀ x o, E0 x = some o -> w.heap[x]? = some o /\ o.isCells = true) :
   @Rep ⟨E0⟩ (w.alloc (.cells #[.slice A l.length c, .int .i64 0, .slice none 0 0, .slice none 0 0, .slice none 0 0, .int .i64 0] 166)) w.heap.size w.heap.size A c l ⟨l, [], [], [], 0⟩ := by
 have hb := X.qab w (.cells #[.slice A l.length c, .int .i64 0, .slice none 0 0, .slice none 0 0, .slice none 0 0, .int .i64 0] 166)
 refine ⟨0, .slice none 0 0, .slice none 0 0, .slice none 0 0, [], [], @St.mk ⟨E0⟩ _ _ _ _ _ _ _ _ _ _ _ _ _ ⟨World.alloc_heap_new w _, fun hn => ?_, Nat.le_refl _, Nat.zero_le _, hl⟩ rfl (qiD _ _ _ _) trivial (qiD _ _ _ _) (fun s hs => by cases hs) (qiD _ _ _ _) (fun x hx => by cases hx) rfl (fun b hb => by cases hb) (fun b hb => by cases hb) (fun b hb => by cases hb) (Nat.zero_le _) (Nat.le_refl _) (fun x o' hx => ?_)⟩
 rotate_left
 . obtain ⟨ho, hoc⟩ := hE x o' hx
   have hlt := World.lt_of_get ho
   have h1 := (hb.block _ hlt).trans ho
   exact ⟨h1, ⟨_, h1, hoc⟩, by omega, (by intro e; cases e), (by intro e; cases e), (by intro e; cases e)⟩
 obtain ⟨b, off, hA, hlt, hc⟩ := hU hn
 exact ⟨b, off, hA, hlt, fun j hj => ⟨(hb.cell (p := ⟨b, off + j * 3, none⟩) hlt).trans (hc j hj).1, (hb.cell (p := ⟨b, off + j * 3 + 1, none⟩) hlt).trans (hc j hj).2.1, (hb.cell (p := ⟨b, off + j * 3 + 2, none⟩) hlt).trans (hc j hj).2.2⟩⟩
def ErrAt (n : Nat) (v : Value) : Prop := (∃ k : Nat, v = stopV k n) ∨ v = qjo n
def noV : Value := .agg #[.int .i64 0, .string ⟨#[]⟩, .int .i64 0, .slice none 0 0]
def qcR (l : List Tok) (w : World) (e : Ending) (w' : World) : Prop :=
 Below w.heap.size w w' /\ ((∃ t A c, Told l t 0 /\ t.size <= 10000 /\ e = .returned (.tuple #[tmV t A c, .nilIface]) /\ TmV w' (fun b => w.heap.size < b /\ b < w'.heap.size) t A c)
   ∨ ∃ n v, (n = 1 ∨ n = 2) /\ Told l T0 n /\ ErrAt n v /\ e = .returned (.tuple #[noV, v]))
theorem qoT {W : World} {base bm : Nat} {A : Option Addr} {c : Nat} {l : List Tok} {τ : PS} {w : World} (hw : Below w.heap.size w W) (h : @Rep ⟨E9 w⟩ W base bm A c l τ) {t : Go.Tm.T} {r : List Go.Tm.T} (e : τ.terms = t :: r) :
   ∃ g n cp B d, W.cell? ⟨bm, 4, none⟩ = some (.slice (some ⟨g, 0, none⟩) (n + 1) cp) /\ W.cell? ⟨g, 0, none⟩ = some (.int .i64 t.kind) /\ W.cell? ⟨g, 1, none⟩ = some (.string t.name) /\ W.cell? ⟨g, 2, none⟩ = some (.int .i64 t.num) /\ W.cell? ⟨g, 3, none⟩ = some (.slice B t.kids.length d) /\ TmV W (fun b => b < W.heap.size /\ w.heap.size < b) t B d := by
 obtain ⟨k, pl, nm, tm, vs, xs, h⟩ := h
 have h0 := h
 obtain ⟨a1, a2, a3, a4, a5, a6, a7, a8, a9, a10, a11, a12, a13, a14, a15⟩ := h
 cases xs with
 | nil => rw [e] at a9; cases a9
 | cons x xs =>
   obtain ⟨u, B, d⟩ := x
   rw [e] at a9
   obtain ⟨rfl, _⟩ : u = t /\ xs.map (·.1) = r := by simpa using a9
   obtain ⟨TA, tc, rfl, h1, h2⟩ := qbd a7
   obtain ⟨g, rfl⟩ : ∃ g, TA = some ⟨g, 0, none⟩ := by
     obtain ⟨_, ⟨h9, h8⟩ | ⟨g, cap, cur, h9, _⟩⟩ := a7
     . cases h8
     . injection h9 with h9 _ _; exact ⟨g, h9⟩
   have hc := fun i v hv => a7.cells (g := g) rfl i v hv
   refine ⟨g, xs.length, tc, B, d, qaa W bm 4 _ _ _ a1.box, hc 0 _ rfl, hc 1 _ rfl, hc 2 _ rfl, hc 3 _ rfl, (a8 (u, B, d) (by simp)).kept (fun b hb => ?_) (fun _ _ => rfl)⟩
   have h9 := @Fix.toFixB ⟨E9 w⟩ _ _ _ _ _ _ hb
   obtain ⟨o, ho, hoc⟩ := h9.cel
   exact ⟨h9.lt, qsk hw ho hoc (@Fix.free ⟨E9 w⟩ _ _ _ _ _ _ hb)⟩
end Go.Proofs.YtjnfhebbphdchaaGreatDoor.Pa
namespace Go.Proofs.YtjnfhebbphdchaaGreatDoor.Pa
open Go.RowKit Go.Shelf Go.Tm Go.Lx Go.Extern.Stop Go.Stop Go.Extern
attribute [local go_sem] Oper.semAt_some
structure EnvP (w : World) : Prop where
 s : EnvS w
 et : ErrT w
theorem EnvP.later {w w' : World} (h : EnvP w) (hb : Below w.heap.size w w') : EnvP w' := ⟨h.s.later hb, h.et.later hb⟩
theorem qtb (m : Int) (w : World) : Calls Tryz.prog 102 #[.nilIface, .iface 171 (.int .i64 m)] w fun e w' => e = .returned (.bool false) /\ Below w.heap.size w w' := by
 have hnl := fun (v : Value) (w : World) => run_eql_iface_nil_left (P := Tryz.prog) (w := w) 171 v Tryz.underlying129
 go_enter Tryz.func102, Tryz.ntmps102
 go_wp2_with fail
 go_ret
 exact ⟨rfl, Below.refl _ _⟩
structure RdW (w W : World) (A : Option Addr) (c : Nat) (l : List Tok) (τ : PS) : Prop where
 below : Below w.heap.size w W
 box : W.heap[w.heap.size]? = some (.cells #[.int .i64 0, .string ⟨#[]⟩, .int .i64 0, .slice none 0 0] 26 (0, 0))
 rep : @Rep ⟨E9 w⟩ W (w.heap.size + 1) (w.heap.size + 1) A c l τ
theorem RdW.later {w W W' : World} {A : Option Addr} {c : Nat} {l : List Tok} {τ : PS} (h : RdW w W A c l τ) (hb : Below W.heap.size W W') : RdW w W' A c l τ :=
 ⟨h.below.trans (hb.mono h.below.size), (hb.block _ (World.lt_of_get h.box)).trans h.box, @Rep.later ⟨E9 w⟩ _ _ _ _ _ _ _ _ h.rep hb⟩
theorem RdW.on {w W W' : World} {A : Option Addr} {c : Nat} {l : List Tok} {τ υ : PS} (h : RdW w W A c l τ) (hb : Below (w.heap.size + 1) W W') (hr : @Rep ⟨E9 w⟩ W' (w.heap.size + 1) (w.heap.size + 1) A c l υ) : RdW w W' A c l υ :=
 ⟨h.below.trans (hb.mono (Nat.le_succ _)), (hb.block _ (Nat.lt_succ_self _)).trans h.box, hr⟩
theorem qiE (A : Option Addr) (l : List Tok) (c : Nat) (w : World) (hE : EnvP w) (hU : X.Toks w w.heap.size A l) (hsh : X.Short l) (hl : l.length <= 1000000000) (hr : Go.Lx.qao l = true) (hn : nestI l 0 0 <= 200) :
   Calls Tryz.prog 57 #[.slice A l.length c] w (qcR l w) := by
 have h40 : 40 * l.length + 38 + 41 <= 1099511627776 := by omega
 obtain ⟨W1, hW1⟩ : ∃ W, w.alloc (.cells #[.int .i64 0, .string ⟨#[]⟩, .int .i64 0, .slice none 0 0] 26) = W := ⟨_, rfl⟩
 have hb1 : Below w.heap.size w W1 := by rw [<- hW1]; exact X.qab _ _
 have hz1 : W1.heap.size = w.heap.size + 1 := by rw [<- hW1]; exact World.size_alloc _ _
 have hr1 : W1.heap[w.heap.size]? = some (.cells #[.int .i64 0, .string ⟨#[]⟩, .int .i64 0, .slice none 0 0] 26 (0, 0)) := by rw [<- hW1]; exact World.alloc_heap_new w (.cells #[.int .i64 0, .string ⟨#[]⟩, .int .i64 0, .slice none 0 0] 26)
 have hrep := qsl A l c W1 (hU.later hb1) (by omega) (E9 w) (fun x o hx => qsj hb1 hr1 hx)
 obtain ⟨W2, hW2⟩ : ∃ W, W1.alloc (.cells #[.slice A l.length c, .int .i64 0, .slice none 0 0, .slice none 0 0, .slice none 0 0, .int .i64 0] 166) = W := ⟨_, rfl⟩
 have hb2 : Below W1.heap.size W1 W2 := by rw [<- hW2]; exact X.qab _ _
 have hz2 : W2.heap.size = w.heap.size + 1 + 1 := by rw [<- hW2, <- hz1]; exact World.size_alloc _ _
 rw [hW2] at hrep
 have kt := @qaI ⟨E9 w⟩ W2 W1.heap.size W1.heap.size A c l ⟨l, [], [], [], 0⟩ hrep [] [.seq, .fin] [.func (.func 99) #[] #[], .func (.func 100) #[] #[]] ⟨fun _ _ => rfl, fun _ _ => rfl, trivial⟩ (by simp) (by simp) 2 rfl
 rw [hz1, show W2.heap.size + ([] : List Obj).length = w.heap.size + 1 + 1 from hz2] at kt
 rw [hz1] at hrep
 change Calls _ _ _ (W2.alloc (.cells #[.func (.func 99) #[] #[], .func (.func 100) #[] #[]] 210)) (fun e w' => e = .returned (.tuple #[]) /\ @Rep ⟨E9 w⟩ w' (w.heap.size + 1) (w.heap.size + 1) A c l (σ0 l) /\ Below (w.heap.size + 1) W2 w') at kt
 have hX := hid (RdW.mk (hb1.trans (hb2.mono hb1.size)) ((hb2.block _ (by omega)).trans hr1) hrep)
 obtain ⟨o, g⟩ := qeC _ (σ0 l) (Nat.le_refl _) (ok_0 l)
 have kr := hid (fun (W : World) (h : @Rep ⟨E9 w⟩ W (w.heap.size + 1) (w.heap.size + 1) A c l (σ0 l)) => qoz (E9 w) (w.heap.size + 1) (w.heap.size + 1) A c l (σ0 l) o (40 * l.length + 38) W h g (qlB l) (lim_0 l) (by omega) hsh)
 have k2 := hid (fun (W : World) (τ : PS) (υ : Out) (h : @Rep ⟨E9 w⟩ W (w.heap.size + 1) (w.heap.size + 1) A c l τ) (g1 : Ends (σ0 l) (.bad τ 1)) (g2 : Ends τ υ) => qoz (E9 w) (w.heap.size + 1) (w.heap.size + 1) A c l τ υ (40 * l.length + 38 + 41) W h g2 (g1.fits (qlB l)).1 (g1.lim (lim_0 l)) (by omega) hsh)
 have ho1 := hid (ok_0 l)
 replace kt := hid kt
 replace g := hid g
 replace hr := hid hr
 replace hn := hid hn
 replace hE := hid hE
 replace hW1 := hid hW1
 replace hW2 := hid hW2
 replace hz2 := hid hz2
 replace hz1 := hid hz1
 clear hU hsh hl h40 hb1 hb2 hr1 hrep
 obtain ⟨L, hL⟩ : ∃ n, l.length = n := ⟨_, rfl⟩
 rw [hL] at hW2 ⊢
 replace hL := hid hL
 go_enter Tryz.func57, Tryz.ntmps57
 go_wp2_with fail
 rw [hW1.out, hW2.out]
 refine kt.out.mono ?_
 rintro e w3 ⟨rfl, hR3, hB3⟩
 have hX3 := hid (hX.out.on hB3 hR3)
 replace kr := hid (kr.out w3 hR3)
 clear kt hX hR3 hB3
 go_wp2_with fail
 refine kr.out.mono ?_
 rintro e w4 ⟨k, rfl, hR4, hB4⟩
 have hX4 := hid (hX3.out.on hB4 hR4)
 clear kr hX3 hB4
 have hE4 := hid (hE.out.later hX4.out.below)
 cases o with
 | ok τ =>
   have ki := hid (qtb 1 w4)
   unfold errV
   go_wp2_with fail
   refine ki.out.mono ?_
   rintro e w5 ⟨rfl, hb5⟩
   have hX5 := hid (hX4.out.later hb5)
   replace hE4 := hid (hE4.out.later hb5)
   clear ki hb5 hX4 hR4
   have hthere := g.out.there (qlB l) (by unfold σ0; exact Nat.zero_le _)
   obtain ⟨t, r, htr⟩ : ∃ t r, τ.terms = t :: r := by
     cases e : τ.terms with
     | nil => rw [e] at hthere; simp at hthere
     | cons t r => exact ⟨t, r, rfl⟩
   have hsz := qmJ g.out htr
   obtain ⟨gb, gn, gc, B, d, c4, q0, q1, q2, q3, hT⟩ := qoT hX5.out.below hX5.out.rep htr
   have hb6 := X.qab w5 (.cells #[.int .i64 t.kind, .string t.name, .int .i64 t.num, .slice B t.kids.length d] 26)
   have hX6 := hid (hX5.out.later hb6)
   have hT6 : TmV (w5.alloc (.cells #[.int .i64 t.kind, .string t.name, .int .i64 t.num, .slice B t.kids.length d] 26)) (fun b => b < (w5.alloc (.cells #[.int .i64 t.kind, .string t.name, .int .i64 t.num, .slice B t.kids.length d] 26)).heap.size /\ w.heap.size < b) t B d := hT.kept (fun b hb => ⟨Nat.lt_of_lt_of_le hb.1 hb6.size, hb.2⟩) (fun b hb => hb6.block b hb.1)
   have kq := qcv t B d _ (hE4.out.later hb6).s.tm (by omega) (hT6.kept (fun _ hb => hb.1) (fun _ _ => rfl))
   unfold tmV at kq
   replace kq := hid kq
   replace hT6 := hid hT6
   replace htr := hid htr
   replace hsz := hid hsz
   clear hthere hT hb6 hX5
   have hgn : (0 : Int) < ((gn + 1 : Nat) : Int) := by omega
   obtain ⟨G, hG⟩ : ∃ G, gn + 1 = G := ⟨_, rfl⟩
   rw [hG] at c4 hgn
   replace hG := hid hG
   have hgn2 : 0 < G := by omega
   go_wp2_with fail
   obtain ⟨W6, hW6⟩ : ∃ W, w5.alloc (.cells #[.int .i64 t.kind, .string t.name, .int .i64 t.num, .slice B t.kids.length d] 26) = W := ⟨_, rfl⟩
   have x9 := World.alloc_heap_new w5 (.cells #[.int .i64 t.kind, .string t.name, .int .i64 t.num, .slice B t.kids.length d] 26)
   rw [hW6] at hX6 hT6 kq x9 ⊢
   replace hW6 := hid hW6
   refine kq.out.mono ?_
   rintro e w7 ⟨rfl, hb7⟩
   have hX7 := hid (hX6.out.later hb7)
   have hT7 : Hid (TmV w7 (fun b => b < w7.heap.size /\ w.heap.size < b) t B d) := hT6.out.kept (fun b hb => ⟨Nat.lt_of_lt_of_le hb.1 hb7.size, hb.2⟩) (fun b hb => hb7.block b hb.1)
   have x7 := (hb7.block _ (World.lt_of_get x9)).trans x9
   clear kq hb7 hX6 hT6 x9 q0 q1 q2 q3 c4 hgn hgn2
   have p0 := qaa w7 w5.heap.size 0 _ _ _ x7
   have p1 := qaa w7 w5.heap.size 1 _ _ _ x7
   have p2 := qaa w7 w5.heap.size 2 _ _ _ x7
   have p3 := qaa w7 w5.heap.size 3 _ _ _ x7
   replace x7 := hid x7
   cases hrt : qai t with
   | true =>
     have hend0 : Told l t 0 := .ok hr.out hn.out g.out htr.out hrt
     replace hrt := hid hrt
     replace hend0 := hid hend0
     have hr9 := hX7.out.box
     have f0 := qac hr9 0
     have f1 := qac hr9 1
     have f2 := qac hr9 2
     have f3 := qac hr9 3
     have g0 := qaa w7 w.heap.size 0 _ _ _ hr9
     have g1 := qaa w7 w.heap.size 1 _ _ _ hr9
     have g2 := qaa w7 w.heap.size 2 _ _ _ hr9
     have g3 := qaa w7 w.heap.size 3 _ _ _ hr9
     have s9 := qbr (v0 := .int .i64 t.kind) (v1 := .string t.name) (v2 := .int .i64 t.num) (v3 := .slice B t.kids.length d) hr9
     have s0 := qaa _ w.heap.size 0 _ _ _ s9
     have s1 := qaa _ w.heap.size 1 _ _ _ s9
     have s2 := qaa _ w.heap.size 2 _ _ _ s9
     have s3 := qaa _ w.heap.size 3 _ _ _ s9
     unfold set4 at s0 s1 s2 s3
     have hend : Hid (qcR l w (.returned (.tuple #[tmV t B d, .nilIface])) (set4 w7 w.heap.size (.int .i64 t.kind) (.string t.name) (.int .i64 t.num) (.slice B t.kids.length d))) := ⟨qaV hX7.out.below (Nat.le_refl _), .inl ⟨t, B, d, hend0.out, hsz.out, rfl, hT7.out.kept (fun b hb => ⟨hb.2, by rw [qgO]; exact hb.1⟩) (fun b hb => qfs (by omega))⟩⟩
     unfold set4 at hend
     replace hr9 := hid hr9
     replace s9 := hid s9
     have hres : Tryz.f57.results = #[.cell 2 26, .tmp 3] := by kernel_rfl
     replace hres := hid hres
     go_wp2_with fail
     refine bodyPost_ret (v := .tuple #[.agg #[.int .i64 t.kind, .string t.name, .int .i64 t.num, .slice B t.kids.length d], .nilIface]) ?_ rfl hend.out
     simp only [results, hres.out]
     go_simp
   | false =>
     have ht : Told l T0 1 := .great hr.out hn.out g.out htr.out hrt
     replace hrt := hid hrt
     replace ht := hid ht
     have hr9 := hX7.out.box
     have f0 := qac hr9 0
     have f1 := qac hr9 1
     have f2 := qac hr9 2
     have f3 := qac hr9 3
     have g0 := qaa w7 w.heap.size 0 _ _ _ hr9
     have g1 := qaa w7 w.heap.size 1 _ _ _ hr9
     have g2 := qaa w7 w.heap.size 2 _ _ _ hr9
     have g3 := qaa w7 w.heap.size 3 _ _ _ hr9
     have s9 := qbr (v0 := .int .i64 0) (v1 := .string ⟨#[]⟩) (v2 := .int .i64 0) (v3 := .slice none 0 0) hr9
     have s0 := qaa _ w.heap.size 0 _ _ _ s9
     have s1 := qaa _ w.heap.size 1 _ _ _ s9
     have s2 := qaa _ w.heap.size 2 _ _ _ s9
     have s3 := qaa _ w.heap.size 3 _ _ _ s9
     unfold set4 at s0 s1 s2 s3
     have hend : Hid (qcR l w (.returned (.tuple #[noV, (qjo 1)])) (set4 w7 w.heap.size (.int .i64 0) (.string ⟨#[]⟩) (.int .i64 0) (.slice none 0 0))) := ⟨qaV hX7.out.below (Nat.le_refl _), .inr ⟨1, _, .inl rfl, ht.out, (.inr rfl), rfl⟩⟩
     unfold noV qjo at hend
     unfold set4 at hend
     replace hr9 := hid hr9
     replace s9 := hid s9
     have hres : Tryz.f57.results = #[.cell 2 26, .tmp 3] := by kernel_rfl
     replace hres := hid hres
     go_wp2_with fail
     refine bodyPost_ret (v := .tuple #[.agg #[.int .i64 0, .string ⟨#[]⟩, .int .i64 0, .slice none 0 0], (qjo 1)]) ?_ rfl hend.out
     simp only [results, hres.out]
     go_simp
     try rfl
 | bad τ e =>
   have he := qdg g.out
   rcases he with rfl | rfl
   . have ki := hid (qoB k 1 1 w4)
     obtain ⟨o2, g2⟩ := qeC _ τ (Nat.le_refl _) (qlC g.out ho1.out rfl)
     have kk := hid (fun W h => k2.out W τ o2 h g.out g2)
     unfold errV
     unfold stopV at ki ⊢
     go_wp2_with fail
     refine ki.out.mono ?_
     rintro e w5 ⟨rfl, hb5⟩
     have hX5 := hid (hX4.out.later hb5)
     replace kk := hid (kk.out w5 hX5.out.rep)
     replace g2 := hid g2
     clear ki hb5 hX4 hR4 k2
     go_wp2_with fail
     refine kk.out.mono ?_
     rintro e w6 ⟨k3, rfl, hR6, hb6⟩
     have hX6 := hid (hX5.out.on hb6 hR6)
     clear kk hb6 hX5 hR6
     cases o2 with
     | ok υ =>
       have ht : Told l T0 1 := .limit hr.out hn.out g.out g2.out
       replace ht := hid ht
       unfold errV
       have hr9 := hX6.out.box
       have f0 := qac hr9 0
       have f1 := qac hr9 1
       have f2 := qac hr9 2
       have f3 := qac hr9 3
       have g0 := qaa w6 w.heap.size 0 _ _ _ hr9
       have g1 := qaa w6 w.heap.size 1 _ _ _ hr9
       have g2 := qaa w6 w.heap.size 2 _ _ _ hr9
       have g3 := qaa w6 w.heap.size 3 _ _ _ hr9
       have s9 := qbr (v0 := .int .i64 0) (v1 := .string ⟨#[]⟩) (v2 := .int .i64 0) (v3 := .slice none 0 0) hr9
       have s0 := qaa _ w.heap.size 0 _ _ _ s9
       have s1 := qaa _ w.heap.size 1 _ _ _ s9
       have s2 := qaa _ w.heap.size 2 _ _ _ s9
       have s3 := qaa _ w.heap.size 3 _ _ _ s9
       unfold set4 at s0 s1 s2 s3
       have hend : Hid (qcR l w (.returned (.tuple #[noV, (stopV k 1)])) (set4 w6 w.heap.size (.int .i64 0) (.string ⟨#[]⟩) (.int .i64 0) (.slice none 0 0))) := ⟨qaV hX6.out.below (Nat.le_refl _), .inr ⟨1, _, .inl rfl, ht.out, (.inl ⟨k, rfl⟩), rfl⟩⟩
       unfold noV stopV at hend
       unfold set4 at hend
       replace hr9 := hid hr9
       replace s9 := hid s9
       have hres : Tryz.f57.results = #[.cell 2 26, .tmp 3] := by kernel_rfl
       replace hres := hid hres
       go_wp2_with fail
       refine bodyPost_ret (v := .tuple #[.agg #[.int .i64 0, .string ⟨#[]⟩, .int .i64 0, .slice none 0 0], (stopV k 1)]) ?_ rfl hend.out
       simp only [results, hres.out]
       go_simp
       try rfl
     | bad υ e2 =>
       have ht : Told l T0 e2 := .both hr.out hn.out g.out g2.out
       have he2 := hid (qdg g2.out)
       replace ht := hid ht
       unfold errV
       unfold stopV
       have hr9 := hX6.out.box
       have f0 := qac hr9 0
       have f1 := qac hr9 1
       have f2 := qac hr9 2
       have f3 := qac hr9 3
       have g0 := qaa w6 w.heap.size 0 _ _ _ hr9
       have g1 := qaa w6 w.heap.size 1 _ _ _ hr9
       have g2 := qaa w6 w.heap.size 2 _ _ _ hr9
       have g3 := qaa w6 w.heap.size 3 _ _ _ hr9
       have s9 := qbr (v0 := .int .i64 0) (v1 := .string ⟨#[]⟩) (v2 := .int .i64 0) (v3 := .slice none 0 0) hr9
       have s0 := qaa _ w.heap.size 0 _ _ _ s9
       have s1 := qaa _ w.heap.size 1 _ _ _ s9
       have s2 := qaa _ w.heap.size 2 _ _ _ s9
       have s3 := qaa _ w.heap.size 3 _ _ _ s9
       unfold set4 at s0 s1 s2 s3
       have hend : Hid (qcR l w (.returned (.tuple #[noV, (stopV k3 e2)])) (set4 w6 w.heap.size (.int .i64 0) (.string ⟨#[]⟩) (.int .i64 0) (.slice none 0 0))) := ⟨qaV hX6.out.below (Nat.le_refl _), .inr ⟨e2, _, he2.out, ht.out, (.inl ⟨k3, rfl⟩), rfl⟩⟩
       unfold noV stopV at hend
       unfold set4 at hend
       replace hr9 := hid hr9
       replace s9 := hid s9
       have hres : Tryz.f57.results = #[.cell 2 26, .tmp 3] := by kernel_rfl
       replace hres := hid hres
       go_wp2_with fail
       refine bodyPost_ret (v := .tuple #[.agg #[.int .i64 0, .string ⟨#[]⟩, .int .i64 0, .slice none 0 0], (stopV k3 e2)]) ?_ rfl hend.out
       simp only [results, hres.out]
       go_simp
       try rfl
   . have ki := hid (qoB k 2 1 w4)
     have ht : Told l T0 2 := .bad hr.out hn.out g.out (by decide)
     unfold errV
     unfold stopV at ki ⊢
     go_wp2_with fail
     refine ki.out.mono ?_
     rintro e w5 ⟨rfl, hb5⟩
     have hX5 := hid (hX4.out.later hb5)
     clear ki hb5 hX4 hR4
     replace ht := hid ht
     have hr9 := hX5.out.box
     have f0 := qac hr9 0
     have f1 := qac hr9 1
     have f2 := qac hr9 2
     have f3 := qac hr9 3
     have g0 := qaa w5 w.heap.size 0 _ _ _ hr9
     have g1 := qaa w5 w.heap.size 1 _ _ _ hr9
     have g2 := qaa w5 w.heap.size 2 _ _ _ hr9
     have g3 := qaa w5 w.heap.size 3 _ _ _ hr9
     have s9 := qbr (v0 := .int .i64 0) (v1 := .string ⟨#[]⟩) (v2 := .int .i64 0) (v3 := .slice none 0 0) hr9
     have s0 := qaa _ w.heap.size 0 _ _ _ s9
     have s1 := qaa _ w.heap.size 1 _ _ _ s9
     have s2 := qaa _ w.heap.size 2 _ _ _ s9
     have s3 := qaa _ w.heap.size 3 _ _ _ s9
     unfold set4 at s0 s1 s2 s3
     have hend : Hid (qcR l w (.returned (.tuple #[noV, (stopV k 2)])) (set4 w5 w.heap.size (.int .i64 0) (.string ⟨#[]⟩) (.int .i64 0) (.slice none 0 0))) := ⟨qaV hX5.out.below (Nat.le_refl _), .inr ⟨2, _, .inr rfl, ht.out, (.inl ⟨k, rfl⟩), rfl⟩⟩
     unfold noV stopV at hend
     unfold set4 at hend
     replace hr9 := hid hr9
     replace s9 := hid s9
     have hres : Tryz.f57.results = #[.cell 2 26, .tmp 3] := by kernel_rfl
     replace hres := hid hres
     go_wp2_with fail
     refine bodyPost_ret (v := .tuple #[.agg #[.int .i64 0, .string ⟨#[]⟩, .int .i64 0, .slice none 0 0], (stopV k 2)]) ?_ rfl hend.out
     simp only [results, hres.out]
     go_simp
     try rfl
end Go.Proofs.YtjnfhebbphdchaaGreatDoor.Pa
namespace Go.Proofs.YtjnfhebbphdchaaGreatDoor.Pa
open Go.Tm Go.Lx
theorem qoU (p : Int × Int) (x : Tok) : stepF p x = (p.1 + parI [x], max p.2 (p.1 + parI [x])) := by
 unfold stepF parI
 simp only [List.countP_singleton, beq_iff_eq]
 by_cases h1 : x.text = [40]
 . rw [if_pos h1, if_pos h1, if_neg (by rw [h1]; decide)]; rfl
 . rw [if_neg h1, if_neg h1]
   by_cases h2 : x.text = [41]
   . rw [if_pos h2, if_pos h2]; rfl
   . rw [if_neg h2, if_neg h2]
     simp
theorem qjy : ∀ (l : List Tok) (o m : Int), (l.foldl stepF (o, m)).2 = nestI l o m
 | [], _, _ => rfl
 | x :: l, o, m => by rw [List.foldl_cons, qoU, qjy l]; rfl
theorem qnj (l : List Tok) : (nestF l).2 = nestI l 0 0 := qjy l 0 0
end Go.Proofs.YtjnfhebbphdchaaGreatDoor.Pa
namespace Go.Proofs.YtjnfhebbphdchaaGreatDoor.Pa
open Go.RowKit Go.Shelf Go.Tm Go.Lx Go.Extern.Stop Go.Stop Go.Extern
attribute [local go_sem] Oper.semAt_some
def qgZ (l : List Tok) (w : World) (e : Ending) (w' : World) : Prop :=
 Below w.heap.size w w' /\ ((∃ t B d, Told l t 0 /\ t.size <= 10000 /\ e = .returned (.tuple #[tmV t B d, .int .i64 0]) /\ TmV w' (fun b => w.heap.size < b /\ b < w'.heap.size) t B d)
   ∨ ∃ n : Nat, (n = 1 ∨ n = 2) /\ Told l T0 n /\ e = .returned (.tuple #[noV, .int .i64 n]))
structure BxW (w W : World) : Prop where
 below : Below w.heap.size w W
 box : W.heap[w.heap.size]? = some (.cells #[.int .i64 0, .string ⟨#[]⟩, .int .i64 0, .slice none 0 0] 26 (0, 0))
theorem BxW.later {w W W' : World} (h : BxW w W) (hb : Below W.heap.size W W') : BxW w W' :=
 ⟨h.below.trans (hb.mono h.below.size), (hb.block _ (World.lt_of_get h.box)).trans h.box⟩
theorem BxW.new (w : World) : BxW w (w.alloc (.cells #[.int .i64 0, .string ⟨#[]⟩, .int .i64 0, .slice none 0 0] 26)) := ⟨X.qab _ _, World.alloc_heap_new w _⟩
theorem qeN (A : Option Addr) (l : List Tok) (c : Nat) (w : World) (hE : EnvP w) (hU : X.Toks w w.heap.size A l) (hsh : X.Short l) (hl : l.length <= 1000000000) :
   Calls Tryz.prog 30 #[.slice A l.length c] w (qgZ l w) := by
 obtain ⟨W1, hW1⟩ : ∃ W, w.alloc (.cells #[.int .i64 0, .string ⟨#[]⟩, .int .i64 0, .slice none 0 0] 26) = W := ⟨_, rfl⟩
 have hX := BxW.new w
 have hb1 := X.qab w (.cells #[.int .i64 0, .string ⟨#[]⟩, .int .i64 0, .slice none 0 0] 26)
 rw [hW1] at hX hb1
 have kr := hid (fun (W : World) (hb : Below w.heap.size w W) => X.qna A l c W (hE.later hb).s.lx (hU.later hb) hsh (by omega))
 have kn := hid (fun (W : World) (hb : Below w.heap.size w W) => qkp A l c W (hU.later hb) (by omega))
 have kd := hid (fun (W : World) (hb : Below w.heap.size w W) (h1 : Go.Lx.qao l = true) (h2 : nestI l 0 0 <= 200) => qiE A l c W (hE.later hb) (hU.later hb) hsh hl h1 h2)
 replace hE := hid hE
 replace hX := hid hX
 replace hb1 := hid hb1
 replace hW1 := hid hW1
 clear hU hsh hl
 go_enter Tryz.func30, Tryz.ntmps30
 go_wp2_with fail
 rw [hW1.out]
 refine (kr.out W1 hb1.out).mono ?_
 rintro e w2 ⟨rfl, hb2⟩
 have hX2 := hid (hX.out.later hb2)
 clear hX hb1 kr hb2
 cases hr : Go.Lx.qao l with
 | false =>
   have ht : Told l T0 2 := .wrong hr
   replace hr := hid hr
   replace ht := hid ht
   have hr9 := hX2.out.box
   have f0 := qac hr9 0
   have f1 := qac hr9 1
   have f2 := qac hr9 2
   have f3 := qac hr9 3
   have g0 := qaa w2 w.heap.size 0 _ _ _ hr9
   have g1 := qaa w2 w.heap.size 1 _ _ _ hr9
   have g2 := qaa w2 w.heap.size 2 _ _ _ hr9
   have g3 := qaa w2 w.heap.size 3 _ _ _ hr9
   have s9 := qbr (v0 := .int .i64 0) (v1 := .string ⟨#[]⟩) (v2 := .int .i64 0) (v3 := .slice none 0 0) hr9
   have s0 := qaa _ w.heap.size 0 _ _ _ s9
   have s1 := qaa _ w.heap.size 1 _ _ _ s9
   have s2 := qaa _ w.heap.size 2 _ _ _ s9
   have s3 := qaa _ w.heap.size 3 _ _ _ s9
   unfold set4 at s0 s1 s2 s3
   have hend : Hid (qgZ l w (.returned (.tuple #[noV, (.int .i64 2)])) (set4 w2 w.heap.size (.int .i64 0) (.string ⟨#[]⟩) (.int .i64 0) (.slice none 0 0))) := ⟨qaV hX2.out.below (Nat.le_refl _), .inr ⟨2, .inr rfl, ht.out, rfl⟩⟩
   unfold noV at hend
   unfold set4 at hend
   replace hr9 := hid hr9
   replace s9 := hid s9
   have hres : Tryz.f30.results = #[.cell 2 26, .tmp 3] := by kernel_rfl
   replace hres := hid hres
   go_wp2_with fail
   refine bodyPost_ret (v := .tuple #[.agg #[.int .i64 0, .string ⟨#[]⟩, .int .i64 0, .slice none 0 0], (.int .i64 2)]) ?_ rfl hend.out
   simp only [results, hres.out]
   go_simp
   try rfl
 | true =>
   replace hr := hid hr
   go_wp2_with fail
   refine (kn.out w2 hX2.out.below).mono ?_
   rintro e w3 ⟨rfl, hb3⟩
   have hX3 := hid (hX2.out.later hb3)
   have hz3 := hid hX3.out.below.size
   clear hX2 kn hb3
   have hnn := qnj l
   obtain ⟨nn, hnn2⟩ : ∃ x, (nestF l).2 = x := ⟨_, rfl⟩
   rw [hnn2] at hnn ⊢
   replace hnn2 := hid hnn2
   replace hnn := hid hnn
   by_cases hn : nestI l 0 0 <= 200
   . have hg : ¬ (200 : Int) < nn := by have := hnn.out; omega
     have hg2 : decide ((200 : Int) < nn) = false := decide_eq_false hg
     have kd2 := hid (kd.out w3 hX3.out.below hr.out hn)
     replace hn := hid hn
     clear kd
     go_wp2_with fail
     refine kd2.out.mono ?_
     rintro e w4 ⟨hb4, ho⟩
     have hX4 := hid (hX3.out.later hb4)
     clear kd2 hX3 hb4
     have hE4 := hid (hE.out.later hX4.out.below)
     rcases ho with ⟨t, B, d, ht, hsz, rfl, hT⟩ | ⟨n, v, hn2, ht, hv, rfl⟩
     . replace ht := hid ht
       replace hsz := hid hsz
       unfold tmV
       have x9 := World.alloc_heap_new w4 (.cells #[.int .i64 t.kind, .string t.name, .int .i64 t.num, .slice B t.kids.length d] 26)
       have hb5 := X.qab w4 (.cells #[.int .i64 t.kind, .string t.name, .int .i64 t.num, .slice B t.kids.length d] 26)
       have hX5 := hid (hX4.out.later hb5)
       obtain ⟨W5, hW5⟩ : ∃ W, w4.alloc (.cells #[.int .i64 t.kind, .string t.name, .int .i64 t.num, .slice B t.kids.length d] 26) = W := ⟨_, rfl⟩
       rw [hW5] at x9 hX5 hb5
       have hT5 : Hid (TmV W5 (fun b => b < W5.heap.size /\ w.heap.size < b) t B d) := hT.kept (fun b hb => ⟨Nat.lt_of_lt_of_le hb.2 hb5.size, Nat.lt_of_le_of_lt hz3.out hb.1⟩) (fun b hb => hb5.block b hb.2)
       have p0 := qaa W5 w4.heap.size 0 _ _ _ x9
       have p1 := qaa W5 w4.heap.size 1 _ _ _ x9
       have p2 := qaa W5 w4.heap.size 2 _ _ _ x9
       have p3 := qaa W5 w4.heap.size 3 _ _ _ x9
       replace x9 := hid x9
       clear hX4 hT hb5
       have hr9 := hX5.out.box
       have f0 := qac hr9 0
       have f1 := qac hr9 1
       have f2 := qac hr9 2
       have f3 := qac hr9 3
       have g0 := qaa W5 w.heap.size 0 _ _ _ hr9
       have g1 := qaa W5 w.heap.size 1 _ _ _ hr9
       have g2 := qaa W5 w.heap.size 2 _ _ _ hr9
       have g3 := qaa W5 w.heap.size 3 _ _ _ hr9
       have s9 := qbr (v0 := .int .i64 t.kind) (v1 := .string t.name) (v2 := .int .i64 t.num) (v3 := .slice B t.kids.length d) hr9
       have s0 := qaa _ w.heap.size 0 _ _ _ s9
       have s1 := qaa _ w.heap.size 1 _ _ _ s9
       have s2 := qaa _ w.heap.size 2 _ _ _ s9
       have s3 := qaa _ w.heap.size 3 _ _ _ s9
       unfold set4 at s0 s1 s2 s3
       have hend : Hid (qgZ l w (.returned (.tuple #[tmV t B d, .int .i64 0])) (set4 W5 w.heap.size (.int .i64 t.kind) (.string t.name) (.int .i64 t.num) (.slice B t.kids.length d))) := ⟨qaV hX5.out.below (Nat.le_refl _), .inl ⟨t, B, d, ht.out, hsz.out, rfl, hT5.out.kept (fun b hb => ⟨hb.2, by rw [qgO]; exact hb.1⟩) (fun b hb => qfs (by omega))⟩⟩
       unfold set4 at hend
       replace hr9 := hid hr9
       replace s9 := hid s9
       have hres : Tryz.f30.results = #[.cell 2 26, .tmp 3] := by kernel_rfl
       replace hres := hid hres
       go_wp2_with fail
       refine bodyPost_ret (v := .tuple #[.agg #[.int .i64 t.kind, .string t.name, .int .i64 t.num, .slice B t.kids.length d], .int .i64 0]) ?_ rfl hend.out
       simp only [results, hres.out]
       go_simp
     . replace ht := hid ht
       obtain ⟨tv, vv, rfl⟩ : ∃ a b, v = .iface a b := by
         rcases hv with ⟨k, rfl⟩ | rfl
         . exact ⟨_, _, rfl⟩
         . exact ⟨_, _, rfl⟩
       unfold noV
       have hb5 := X.qab w4 (.cells #[.int .i64 0, .string ⟨#[]⟩, .int .i64 0, .slice none 0 0] 26)
       have hX5 := hid (hX4.out.later hb5)
       obtain ⟨W5, hW5⟩ : ∃ W, w4.alloc (.cells #[.int .i64 0, .string ⟨#[]⟩, .int .i64 0, .slice none 0 0] 26) = W := ⟨_, rfl⟩
       rw [hW5] at hX5 hb5
       have kq := hid (qoI _ n (hv.imp (fun ⟨k, h⟩ => ⟨k, h⟩) id) W5 (hE4.out.later hb5).et)
       clear hX4 hb5
       replace hW5 := hid hW5
       go_wp2_with fail
       rw [hW5.out]
       refine kq.out.mono ?_
       rintro e w6 ⟨rfl, hb6⟩
       have hX6 := hid (hX5.out.later hb6)
       clear kq hb6 hX5
       have hr9 := hX6.out.box
       have f0 := qac hr9 0
       have f1 := qac hr9 1
       have f2 := qac hr9 2
       have f3 := qac hr9 3
       have g0 := qaa w6 w.heap.size 0 _ _ _ hr9
       have g1 := qaa w6 w.heap.size 1 _ _ _ hr9
       have g2 := qaa w6 w.heap.size 2 _ _ _ hr9
       have g3 := qaa w6 w.heap.size 3 _ _ _ hr9
       have s9 := qbr (v0 := .int .i64 0) (v1 := .string ⟨#[]⟩) (v2 := .int .i64 0) (v3 := .slice none 0 0) hr9
       have s0 := qaa _ w.heap.size 0 _ _ _ s9
       have s1 := qaa _ w.heap.size 1 _ _ _ s9
       have s2 := qaa _ w.heap.size 2 _ _ _ s9
       have s3 := qaa _ w.heap.size 3 _ _ _ s9
       unfold set4 at s0 s1 s2 s3
       have hend : Hid (qgZ l w (.returned (.tuple #[noV, (.int .i64 n)])) (set4 w6 w.heap.size (.int .i64 0) (.string ⟨#[]⟩) (.int .i64 0) (.slice none 0 0))) := ⟨qaV hX6.out.below (Nat.le_refl _), .inr ⟨n, hn2, ht.out, rfl⟩⟩
       unfold noV at hend
       unfold set4 at hend
       replace hr9 := hid hr9
       replace s9 := hid s9
       have hres : Tryz.f30.results = #[.cell 2 26, .tmp 3] := by kernel_rfl
       replace hres := hid hres
       go_wp2_with fail
       refine bodyPost_ret (v := .tuple #[.agg #[.int .i64 0, .string ⟨#[]⟩, .int .i64 0, .slice none 0 0], (.int .i64 n)]) ?_ rfl hend.out
       simp only [results, hres.out]
       go_simp
       try rfl
   . have hg : (200 : Int) < nn := by have := hnn.out; omega
     have hg2 : decide ((200 : Int) < nn) = true := decide_eq_true hg
     have ht : Told l T0 1 := .deep hr.out (by omega)
     replace ht := hid ht
     have hr9 := hX3.out.box
     have f0 := qac hr9 0
     have f1 := qac hr9 1
     have f2 := qac hr9 2
     have f3 := qac hr9 3
     have g0 := qaa w3 w.heap.size 0 _ _ _ hr9
     have g1 := qaa w3 w.heap.size 1 _ _ _ hr9
     have g2 := qaa w3 w.heap.size 2 _ _ _ hr9
     have g3 := qaa w3 w.heap.size 3 _ _ _ hr9
     have s9 := qbr (v0 := .int .i64 0) (v1 := .string ⟨#[]⟩) (v2 := .int .i64 0) (v3 := .slice none 0 0) hr9
     have s0 := qaa _ w.heap.size 0 _ _ _ s9
     have s1 := qaa _ w.heap.size 1 _ _ _ s9
     have s2 := qaa _ w.heap.size 2 _ _ _ s9
     have s3 := qaa _ w.heap.size 3 _ _ _ s9
     unfold set4 at s0 s1 s2 s3
     have hend : Hid (qgZ l w (.returned (.tuple #[noV, (.int .i64 1)])) (set4 w3 w.heap.size (.int .i64 0) (.string ⟨#[]⟩) (.int .i64 0) (.slice none 0 0))) := ⟨qaV hX3.out.below (Nat.le_refl _), .inr ⟨1, .inl rfl, ht.out, rfl⟩⟩
     unfold noV at hend
     unfold set4 at hend
     replace hr9 := hid hr9
     replace s9 := hid s9
     have hres : Tryz.f30.results = #[.cell 2 26, .tmp 3] := by kernel_rfl
     replace hres := hid hres
     go_wp2_with fail
     refine bodyPost_ret (v := .tuple #[.agg #[.int .i64 0, .string ⟨#[]⟩, .int .i64 0, .slice none 0 0], (.int .i64 1)]) ?_ rfl hend.out
     simp only [results, hres.out]
     go_simp
     try rfl
end Go.Proofs.YtjnfhebbphdchaaGreatDoor.Pa
