/-
  What the reader holds in memory: plan, names, terms, each in a row of its own. No condition.
  What a term's kids gathered in a row want:
  then:
  The step that reads a word.
  The steps that only plan.
  single:
  more, operation, applied, arguments.
  simple, where it plans.
-/
import Derived.Test.YtjnfhebbphdchaaGreatDoorPaAhead
import Derived.Test.YtjnfhebbphdchaaGreatDoorPaMath
import Derived.Test.YtjnfhebbphdchaaGreatDoorTmSame
import Derived.Test.YtjnfhebbphdchaaGreatDoorShMem
import Derived.Maps.AppendAt
import Derived.Deep.RegionLaw
import Derived.Test.YtjnfhebbphdchaaGreatDoorPaMk
import Derived.Test.YtjnfhebbphdchaaGreatDoorTmRun
import Derived.OrdersHeld
set_option maxHeartbeats 2000000
set_option maxRecDepth 100000
open Go.Lib (hid)
namespace Go.Proofs.YtjnfhebbphdchaaGreatDoor.Pa
open Go.RowKit Go.Shelf Go.Tm Go.Lx
def PE : Type := Nat -> Option Obj
structure FixB (W : World) (bm : Nat) (pl nm tm : Value) (b : Nat) : Prop where
 cel : ∃ o, W.heap[b]? = some o /\ o.isCells = true
 box : b ≠ bm
 pl : pl.ownBlock ≠ some b
 nm : nm.ownBlock ≠ some b
 tm : tm.ownBlock ≠ some b
theorem FixB.lt {W : World} {bm : Nat} {pl nm tm : Value} {b : Nat} (h : FixB W bm pl nm tm b) : b < W.heap.size := by
 obtain ⟨o, ho, _⟩ := h.cel
 exact World.lt_of_get ho
theorem qkK {W : World} {v v' : Value} {b : Nat} (hn : NewB W v v') (h : v.ownBlock ≠ some b) (hb : b < W.heap.size) : v'.ownBlock ≠ some b := by
 rcases hn with e | ⟨g, e, hg⟩
 . rw [e]; exact h
 . rw [e]; intro e2; injection e2 with e3; omega
theorem FixB.keep {W W' : World} {bm : Nat} {pl nm tm pl' nm' tm' : Value} {b : Nat} (h : FixB W bm pl nm tm b) (he : W'.heap[b]? = W.heap[b]?) (hp : NewB W pl pl') (hn : NewB W nm nm') (ht : NewB W tm tm') : FixB W' bm pl' nm' tm' b :=
 ⟨by rw [he]; exact h.cel, h.box, qkK hp h.pl h.lt, qkK hn h.nm h.lt, qkK ht h.tm h.lt⟩
structure Fix [Inhabited PE] (W : World) (bm : Nat) (pl nm tm : Value) (b : Nat) : Prop extends FixB W bm pl nm tm b where
 free : (default : PE) b = none
theorem Fix.lt [Inhabited PE] {W : World} {bm : Nat} {pl nm tm : Value} {b : Nat} (h : Fix W bm pl nm tm b) : b < W.heap.size := h.toFixB.lt
theorem Fix.keep [Inhabited PE] {W W' : World} {bm : Nat} {pl nm tm pl' nm' tm' : Value} {b : Nat} (h : Fix W bm pl nm tm b) (he : W'.heap[b]? = W.heap[b]?) (hp : NewB W pl pl') (hn : NewB W nm nm') (ht : NewB W tm tm') : Fix W' bm pl' nm' tm' b :=
 ⟨h.toFixB.keep he hp hn ht, h.free⟩
theorem qgM [Inhabited PE] {W W' : World} {bm : Nat} {pl nm tm pl' nm' tm' : Value} (hk : ∀ b, FixB W bm pl nm tm b -> FixB W' bm pl' nm' tm' b /\ W'.heap[b]? = W.heap[b]?) : ∀ b, Fix W bm pl nm tm b -> Fix W' bm pl' nm' tm' b /\ W'.heap[b]? = W.heap[b]? :=
 fun b hb => ⟨⟨(hk b hb.toFixB).1, hb.free⟩, (hk b hb.toFixB).2⟩
theorem qaj (W : World) (v : Value) : NewB W v v := .inl rfl
theorem qlJ (W : World) (A : Option Addr) (n m c : Nat) : NewB W (.slice A n c) (.slice A m c) := .inl (by cases A <;> rfl)
theorem qix {W : World} {v v' : Value} (h : v'.ownBlock = v.ownBlock ∨ v'.ownBlock = some W.heap.size) : NewB W v v' := h.imp id fun e => ⟨_, e, Nat.le_refl _⟩
def StpAt (W : World) (p : Nat -> Prop) : Stp -> Value -> Prop
 | .seq, v => v = .func (.func 99) #[] #[]
 | .more, v => v = .func (.func 136) #[] #[]
 | .single, v => v = .func (.func 135) #[] #[]
 | .oper, v => v = .func (.func 167) #[] #[]
 | .appl, v => v = .func (.func 166) #[] #[]
 | .args, v => v = .func (.func 189) #[] #[]
 | .simple, v => v = .func (.func 188) #[] #[]
 | .name, v => v = .func (.func 164) #[] #[]
 | .operator, v => v = .func (.func 190) #[] #[]
 | .fin, v => v = .func (.func 100) #[] #[]
 | .word s, v => ∃ b, v = .func (.func 184) #[] #[.pointer (some ⟨b, 0, none⟩)] /\ p b /\ W.heap[b]? = some (.cells #[.string (txB s)] 9 (0, 0))
 | .made k n, v => ∃ b c, v = .func (.func 186) #[] #[.pointer (some ⟨b, 0, none⟩), .pointer (some ⟨c, 0, none⟩)] /\ p b /\ p c /\ W.heap[b]? = some (.cells #[.int .i64 k] 3 (0, 0)) /\ W.heap[c]? = some (.cells #[.int .i64 n] 3 (0, 0))
theorem StpAt.kept {W W' : World} {p q : Nat -> Prop} {s : Stp} {v : Value} (h : StpAt W p s v) (hk : ∀ b, p b -> q b /\ W'.heap[b]? = W.heap[b]?) : StpAt W' q s v := by
 cases s with
 | word s =>
   obtain ⟨b, h1, h2, h3⟩ := h
   exact ⟨b, h1, (hk b h2).1, (hk b h2).2.trans h3⟩
 | made k n =>
   obtain ⟨b, c, h1, h2, h3, h4, h5⟩ := h
   exact ⟨b, c, h1, (hk b h2).1, (hk c h3).1, (hk b h2).2.trans h4, (hk c h3).2.trans h5⟩
 | _ => exact h
theorem StpAt.one {W : World} {p : Nat -> Prop} {s : Stp} {v : Value} (h : StpAt W p s v) : v.oneCell' = true := by
 cases s with
 | word s => obtain ⟨b, rfl, _⟩ := h; rfl
 | made k n => obtain ⟨b, c, rfl, _⟩ := h; rfl
 | _ => cases h; rfl
def Steps (W : World) (p : Nat -> Prop) : List Stp -> List Value -> Prop
 | [], [] => True
 | s :: l, v :: vs => StpAt W p s v /\ Steps W p l vs
 | _, _ => False
theorem Steps.kept {W W' : World} {p q : Nat -> Prop} (hk : ∀ b, p b -> q b /\ W'.heap[b]? = W.heap[b]?) : ∀ {l : List Stp} {vs : List Value}, Steps W p l vs -> Steps W' q l vs
 | [], [], _ => trivial
 | _ :: _, _ :: _, h => ⟨h.1.kept hk, Steps.kept hk h.2⟩
 | [], _ :: _, h => h.elim
 | _ :: _, [], h => h.elim
theorem Steps.len {W : World} {p : Nat -> Prop} : ∀ {l : List Stp} {vs : List Value}, Steps W p l vs -> vs.length = l.length
 | [], [], _ => rfl
 | _ :: _, _ :: _, h => by rw [List.length_cons, List.length_cons, Steps.len h.2]
 | [], _ :: _, h => h.elim
 | _ :: _, [], h => h.elim
theorem Steps.app {W : World} {p : Nat -> Prop} : ∀ {l : List Stp} {vs : List Value} {l2 : List Stp} {vs2 : List Value}, Steps W p l vs -> Steps W p l2 vs2 -> Steps W p (l ++ l2) (vs ++ vs2)
 | [], [], _, _, _, h => h
 | _ :: _, _ :: _, _, _, h, h2 => ⟨h.1, Steps.app h.2 h2⟩
 | [], _ :: _, _, _, h, _ => h.elim
 | _ :: _, [], _, _, h, _ => h.elim
theorem qbd {W : World} {base size n : Nat} {e : TypeId} {v : Value} {xs : List Value} (h : W.ownsRow base e size v n xs) : ∃ A c, v = .slice A n c /\ n <= c /\ c <= maxLen := by
 obtain ⟨_, ⟨rfl, rfl⟩ | ⟨g, cap, cur, rfl, _, _, h2, h3, _⟩⟩ := h
 . exact ⟨none, 0, rfl, Nat.le_refl _, Nat.zero_le _⟩
 . exact ⟨_, cap, rfl, h2, h3⟩
theorem qgN {W : World} {base size n m c : Nat} {e : TypeId} {A : Option Addr} {xs : List Value} (h : W.ownsRow base e size (.slice A n c) n xs) (hm : m <= n) : W.ownsRow base e size (.slice A m c) m (xs.take (m * size)) := by
 obtain ⟨h1, ⟨h2, rfl⟩ | ⟨g, cap, cur, h2, h3, h4, h5, h6, h7, h8⟩⟩ := h
 . obtain rfl : m = 0 := by omega
   injection h2 with e1 e2 e3
   subst e1; subst e3
   exact ⟨by simp, .inl ⟨rfl, rfl⟩⟩
 . injection h2 with e1 e2 e3
   subst e1; subst e3
   have hle : m * size <= n * size := Nat.mul_le_mul_right _ hm
   exact ⟨by rw [List.length_take, h1]; omega, .inr ⟨g, _, cur, rfl, h3, h4, by omega, h6, h7, by rw [<- h8, List.take_take]; congr 1; omega⟩⟩
theorem qcp (A : Option Addr) (n m c : Nat) : (Value.slice A n c).ownBlock = (Value.slice A m c).ownBlock := by cases A <;> rfl
structure St [Inhabited PE] (W : World) (base bm : Nat) (A : Option Addr) (c : Nat) (ts : List Tok) (σ : PS) (k : Nat) (pl nm tm : Value) (vs : List Value) (xs : List (Go.Tm.T × Option Addr × Nat)) : Prop where
 rdr : Rdr W base bm A c ts k pl nm tm σ.made
 rest : σ.rest = ts.drop k
 pown : W.ownsRow (bm + 1) 210 1 pl vs.length vs.reverse
 pst : Steps W (Fix W bm pl nm tm) σ.plan vs
 nown : W.ownsRow (bm + 1) 9 1 nm σ.names.length (σ.names.map Value.string)
 nsz : ∀ s ∈ σ.names, s.size <= 9223372036854775807
 town : W.ownsRow (bm + 1) 26 4 tm xs.length (xs.flatMap tmC)
 tms : ∀ x ∈ xs, TmV W (Fix W bm pl nm tm) x.1 x.2.1 x.2.2
 teq : xs.map (·.1) = σ.terms
 pn : ∀ b, pl.ownBlock = some b -> nm.ownBlock ≠ some b
 pt : ∀ b, pl.ownBlock = some b -> tm.ownBlock ≠ some b
 nt : ∀ b, nm.ownBlock = some b -> tm.ownBlock ≠ some b
 made : σ.made <= 10001
 few : σ.terms.length <= σ.made
 prot : ∀ x o, (default : PE) x = some o -> W.heap[x]? = some o /\ FixB W bm pl nm tm x
section
variable {W W' : World} {base bm : Nat} {A : Option Addr} {c : Nat} {ts : List Tok} {σ : PS} {k : Nat} {pl nm tm : Value} {vs : List Value} {xs : List (Go.Tm.T × Option Addr × Nat)}
theorem qcd {v : Value} {e : TypeId} {size n : Nat} {l : List Value} (h : W.ownsRow (bm + 1) e size v n l) {g : Nat} (hg : v.ownBlock = some g) : g ≠ bm := by
 obtain ⟨cur, _, h2⟩ := qcc h hg
 omega
theorem Rdr.cells {md : Int} (h : Rdr W base bm A c ts k pl nm tm md) (hk : ∀ (b : Nat) (o : Obj), W.heap[b]? = some o -> o.isCells = true -> W'.heap[b]? = some o) : Rdr W' base bm A c ts k pl nm tm md where
 box := hk bm _ h.box rfl
 tok := fun hn => by
   obtain ⟨b, off, hA, hlt, hc⟩ := h.tok hn
   exact ⟨b, off, hA, hlt, fun j hj => by
     obtain ⟨c0, c1, c2⟩ := hc j hj
     obtain ⟨o, ho, hoc⟩ := qdv c0
     have he := (hk b o ho hoc).trans ho.symm
     exact ⟨(World.cell?_of_block (a := ⟨b, off + j * 3, none⟩) he).trans c0, (World.cell?_of_block (a := ⟨b, off + j * 3 + 1, none⟩) he).trans c1, (World.cell?_of_block (a := ⟨b, off + j * 3 + 2, none⟩) he).trans c2⟩⟩
 low := h.low
 le := h.le
 few := h.few
theorem Rdr.field {md : Int} (h : Rdr W base bm A c ts k pl nm tm md) (i : Nat) (v : Value) {pl' nm' tm' : Value} {md' : Int} (he : (#[.slice A ts.length c, .int .i64 k, pl, nm, tm, .int .i64 md] : Array Value).setIfInBounds i v = #[.slice A ts.length c, .int .i64 k, pl', nm', tm', .int .i64 md']) : Rdr (W.setCell ⟨bm, i, none⟩ v) base bm A c ts k pl' nm' tm' md' where
 box := by
   have := heap_setCell_same W bm i _ _ v h.box
   rwa [he] at this
 tok := fun hn => by
   obtain ⟨b, off, hA, hlt, hc⟩ := h.tok hn
   have hne : b ≠ bm := by have := h.low; omega
   exact ⟨b, off, hA, hlt, fun j hj => by
     obtain ⟨c0, c1, c2⟩ := hc j hj
     have hs := Below.heap_setCell W ⟨bm, i, none⟩ v b hne
     exact ⟨(World.cell?_of_block (a := ⟨b, off + j * 3, none⟩) hs).trans c0, (World.cell?_of_block (a := ⟨b, off + j * 3 + 1, none⟩) hs).trans c1, (World.cell?_of_block (a := ⟨b, off + j * 3 + 2, none⟩) hs).trans c2⟩⟩
 low := h.low
 le := h.le
 few := h.few
theorem Rdr.grown {md : Int} {row : Option Nat} (h : Rdr W base bm A c ts k pl nm tm md) (hg : W.grownBy W' row) (hr : ∀ g, row = some g -> bm < g) : Rdr W' base bm A c ts k pl nm tm md :=
 h.same (hg.block bm (World.lt_of_get h.box) fun e => by have := hr _ e.symm; omega)
   fun j hj => by
     have hl := World.lt_of_get h.box
     have := h.low
     exact hg.block j (by omega) fun e => by have := hr _ e.symm; omega
end
section
variable [Inhabited PE]
variable {W W' : World} {base bm : Nat} {A : Option Addr} {c : Nat} {ts : List Tok} {σ : PS} {k : Nat} {pl nm tm : Value} {vs : List Value} {xs : List (Go.Tm.T × Option Addr × Nat)}
theorem St.tlen (h : St W base bm A c ts σ k pl nm tm vs xs) : xs.length = σ.terms.length := by rw [<- h.teq, List.length_map]
theorem St.plen (h : St W base bm A c ts σ k pl nm tm vs xs) : vs.length = σ.plan.length := h.pst.len
theorem St.low (h : St W base bm A c ts σ k pl nm tm vs xs) : base <= bm := h.rdr.low
theorem St.free (h : St W base bm A c ts σ k pl nm tm vs xs) {b : Nat} (hb : W.heap.size <= b) : (default : PE) b = none := by
 cases e : (default : PE) b with
 | none => rfl
 | some o => have := (h.prot b o e).2.lt; omega
theorem St.lt (h : St W base bm A c ts σ k pl nm tm vs xs) : bm < W.heap.size := World.lt_of_get h.rdr.box
theorem St.pAt (h : St W base bm A c ts σ k pl nm tm vs xs) {g : Nat} (hg : pl.ownBlock = some g) : bm < g /\ g < W.heap.size := by
 obtain ⟨cur, h1, h2⟩ := qcc h.pown hg
 exact ⟨h2, World.lt_of_get h1⟩
theorem St.nAt (h : St W base bm A c ts σ k pl nm tm vs xs) {g : Nat} (hg : nm.ownBlock = some g) : bm < g /\ g < W.heap.size := by
 obtain ⟨cur, h1, h2⟩ := qcc h.nown hg
 exact ⟨h2, World.lt_of_get h1⟩
theorem St.tAt (h : St W base bm A c ts σ k pl nm tm vs xs) {g : Nat} (hg : tm.ownBlock = some g) : bm < g /\ g < W.heap.size := by
 obtain ⟨cur, h1, h2⟩ := qcc h.town hg
 exact ⟨h2, World.lt_of_get h1⟩
theorem St.cells (h : St W base bm A c ts σ k pl nm tm vs xs) (hk : ∀ (b : Nat) (o : Obj), W.heap[b]? = some o -> o.isCells = true -> W'.heap[b]? = some o) : St W' base bm A c ts σ k pl nm tm vs xs := by
 have hfB : ∀ b, FixB W bm pl nm tm b -> FixB W' bm pl nm tm b /\ W'.heap[b]? = W.heap[b]? := fun b hb => by
   obtain ⟨o, ho, hoc⟩ := hb.cel
   have he := (hk b o ho hoc).trans ho.symm
   exact ⟨hb.keep he (qaj _ _) (qaj _ _) (qaj _ _), he⟩
 have hf := qgM hfB
 have ho : ∀ {v : Value} {e : TypeId} {size n : Nat} {l : List Value}, W.ownsRow (bm + 1) e size v n l -> ∀ g, v.ownBlock = some g -> W'.heap[g]? = W.heap[g]? := fun h g hg => by
   obtain ⟨cur, h1, _⟩ := qcc h hg
   exact (hk g _ h1 rfl).trans h1.symm
 exact ⟨h.rdr.cells hk, h.rest, qal h.pown (ho h.pown), h.pst.kept hf, qal h.nown (ho h.nown), h.nsz, qal h.town (ho h.town), fun x hx => (h.tms x hx).kept (fun b hb => (hf b hb).1) (fun b hb => (hf b hb).2), h.teq, h.pn, h.pt, h.nt, h.made, h.few, fun x o hx => ⟨(hfB x (h.prot x o hx).2).2.trans (h.prot x o hx).1, (hfB x (h.prot x o hx).2).1⟩⟩
theorem St.later (h : St W base bm A c ts σ k pl nm tm vs xs) (hb : Below W.heap.size W W') : St W' base bm A c ts σ k pl nm tm vs xs :=
 h.cells fun b _ ho _ => (hb.block b (World.lt_of_get ho)).trans ho
theorem St.take (h : St W base bm A c ts σ k pl nm tm vs xs) (hT : Turn bm W W') (hR : Rdr W' base bm A c ts (k + 1) pl nm tm σ.made) : St W' base bm A c ts { σ with rest := σ.rest.tail } (k + 1) pl nm tm vs xs where
 rdr := hR
 rest := by show σ.rest.tail = _; rw [h.rest, List.tail_drop]
 pown := qal h.pown fun g hg => hT.block g (h.pAt hg).2 (qcd h.pown hg)
 pst := h.pst.kept fun b hk => ⟨hk.keep (hT.block b hk.lt hk.box) (qaj _ _) (qaj _ _) (qaj _ _), hT.block b hk.lt hk.box⟩
 nown := qal h.nown fun g hg => hT.block g (h.nAt hg).2 (qcd h.nown hg)
 nsz := h.nsz
 town := qal h.town fun g hg => hT.block g (h.tAt hg).2 (qcd h.town hg)
 tms x hx := (h.tms x hx).kept (fun b hk => hk.keep (hT.block b hk.lt hk.box) (qaj _ _) (qaj _ _) (qaj _ _)) (fun b hk => hT.block b hk.lt hk.box)
 teq := h.teq
 pn := h.pn
 pt := h.pt
 nt := h.nt
 made := h.made
 few := h.few
 prot x o hx := ⟨(hT.block x (h.prot x o hx).2.lt (h.prot x o hx).2.box).trans (h.prot x o hx).1, (h.prot x o hx).2.keep (hT.block x (h.prot x o hx).2.lt (h.prot x o hx).2.box) (qaj _ _) (qaj _ _) (qaj _ _)⟩
theorem St.plan (h : St W base bm A c ts σ k pl nm tm vs xs) {s : Stp} {v pl' : Value} (hs : StpAt W (Fix W bm pl nm tm) s v) (hg : W.grownBy W' pl.ownBlock) (ho : W'.ownsRow (bm + 1) 210 1 pl' (vs.length + 1) (vs.reverse ++ [v]))
   (hat : pl'.ownBlock = pl.ownBlock ∨ pl'.ownBlock = some W.heap.size) : St (W'.setCell ⟨bm, 2, none⟩ pl') base bm A c ts { σ with plan := s :: σ.plan } k pl' nm tm (v :: vs) xs := by
 have hkB : ∀ b, FixB W bm pl nm tm b -> FixB (W'.setCell ⟨bm, 2, none⟩ pl') bm pl' nm tm b /\ (W'.setCell ⟨bm, 2, none⟩ pl').heap[b]? = W.heap[b]? := fun b hb => by
   have he := (Below.heap_setCell W' ⟨bm, 2, none⟩ pl' b hb.box).trans (hg.block b hb.lt (Ne.symm hb.pl))
   exact ⟨hb.keep he (qix hat) (qaj _ _) (qaj _ _), he⟩
 have hk := qgM hkB
 have hne : ∀ {v2 : Value} {e : TypeId} {size n : Nat} {l : List Value}, W.ownsRow (bm + 1) e size v2 n l -> (∀ b, pl.ownBlock = some b -> v2.ownBlock ≠ some b) -> ∀ g, v2.ownBlock = some g -> g < W.heap.size -> (W'.setCell ⟨bm, 2, none⟩ pl').heap[g]? = W.heap[g]? := fun ho2 hd g hg2 hl =>
   (Below.heap_setCell W' ⟨bm, 2, none⟩ pl' g (qcd ho2 hg2)).trans (hg.block g hl fun e => hd g e.symm hg2)
 refine ⟨(h.rdr.grown hg fun g e => (h.pAt e).1).field 2 pl' rfl, h.rest, ?_, ⟨hs.kept hk, h.pst.kept hk⟩, qal h.nown fun g e => hne h.nown h.pn g e (h.nAt e).2, h.nsz, qal h.town fun g e => hne h.town h.pt g e (h.tAt e).2, fun x hx => (h.tms x hx).kept (fun b hb => (hk b hb).1) (fun b hb => (hk b hb).2), h.teq, ?_, ?_, h.nt, h.made, h.few, fun x o hx => ⟨(hkB x (h.prot x o hx).2).2.trans (h.prot x o hx).1, (hkB x (h.prot x o hx).2).1⟩⟩
 . rw [List.length_cons, List.reverse_cons]
   exact qal ho fun g e => Below.heap_setCell W' ⟨bm, 2, none⟩ pl' g (qcd ho e)
 . intro b hb hn
   rcases hat with e | e
   . exact h.pn b (e ▸ hb) hn
   . rw [e] at hb; injection hb with hb; have := (h.nAt hn).2; omega
 . intro b hb hn
   rcases hat with e | e
   . exact h.pt b (e ▸ hb) hn
   . rw [e] at hb; injection hb with hb; have := (h.tAt hn).2; omega
theorem St.pop {PA : Option Addr} {pc : Nat} {s : Stp} {p : List Stp} {v : Value} (h : St W base bm A c ts σ k (.slice PA (vs.length + 1) pc) nm tm (v :: vs) xs) (hp : σ.plan = s :: p) :
   St (W.setCell ⟨bm, 2, none⟩ (.slice PA vs.length pc)) base bm A c ts { σ with plan := p } k (.slice PA vs.length pc) nm tm vs xs /\ StpAt (W.setCell ⟨bm, 2, none⟩ (.slice PA vs.length pc)) (Fix (W.setCell ⟨bm, 2, none⟩ (.slice PA vs.length pc)) bm (.slice PA vs.length pc) nm tm) s v := by
 have hkB : ∀ b, FixB W bm (.slice PA (vs.length + 1) pc) nm tm b -> FixB (W.setCell ⟨bm, 2, none⟩ (.slice PA vs.length pc)) bm (.slice PA vs.length pc) nm tm b /\ (W.setCell ⟨bm, 2, none⟩ (.slice PA vs.length pc)).heap[b]? = W.heap[b]? := fun b hb => by
   have he := Below.heap_setCell W ⟨bm, 2, none⟩ (.slice PA vs.length pc) b hb.box
   exact ⟨hb.keep he (qlJ _ _ _ _ _) (qaj _ _) (qaj _ _), he⟩
 have hk := qgM hkB
 have hst := h.pst
 rw [hp] at hst
 obtain ⟨h1, h2⟩ := hst
 have ho := h.pown
 rw [List.length_cons] at ho
 have hc := qgN ho (Nat.le_succ vs.length)
 rw [Nat.mul_one, List.reverse_cons, List.take_append_of_le_length (by simp), List.take_of_length_le (by simp)] at hc
 refine ⟨⟨h.rdr.field 2 _ rfl, h.rest, qal hc fun g e => Below.heap_setCell W ⟨bm, 2, none⟩ _ g (qcd hc e), h2.kept hk, qal h.nown fun g e => Below.heap_setCell W ⟨bm, 2, none⟩ _ g (qcd h.nown e), h.nsz, qal h.town fun g e => Below.heap_setCell W ⟨bm, 2, none⟩ _ g (qcd h.town e), fun x hx => (h.tms x hx).kept (fun b hb => (hk b hb).1) (fun b hb => (hk b hb).2), h.teq, ?_, ?_, h.nt, h.made, h.few, fun x o hx => ⟨(hkB x (h.prot x o hx).2).2.trans (h.prot x o hx).1, (hkB x (h.prot x o hx).2).1⟩⟩, h1.kept hk⟩
 . intro b hb; exact h.pn b (by rw [qcp PA _ vs.length]; exact hb)
 . intro b hb; exact h.pt b (by rw [qcp PA _ vs.length]; exact hb)
theorem St.name (h : St W base bm A c ts σ k pl nm tm vs xs) {s : ByteArray} {nm' : Value} (hs : s.size <= 9223372036854775807) (hg : W.grownBy W' nm.ownBlock) (ho : W'.ownsRow (bm + 1) 9 1 nm' (σ.names.length + 1) (σ.names.map Value.string ++ [.string s]))
   (hat : nm'.ownBlock = nm.ownBlock ∨ nm'.ownBlock = some W.heap.size) : St (W'.setCell ⟨bm, 3, none⟩ nm') base bm A c ts { σ with names := σ.names ++ [s] } k pl nm' tm vs xs := by
 have hkB : ∀ b, FixB W bm pl nm tm b -> FixB (W'.setCell ⟨bm, 3, none⟩ nm') bm pl nm' tm b /\ (W'.setCell ⟨bm, 3, none⟩ nm').heap[b]? = W.heap[b]? := fun b hb => by
   have he := (Below.heap_setCell W' ⟨bm, 3, none⟩ nm' b hb.box).trans (hg.block b hb.lt (Ne.symm hb.nm))
   exact ⟨hb.keep he (qaj _ _) (qix hat) (qaj _ _), he⟩
 have hk := qgM hkB
 have hne : ∀ {v2 : Value} {e : TypeId} {size n : Nat} {l : List Value}, W.ownsRow (bm + 1) e size v2 n l -> (∀ b, nm.ownBlock = some b -> v2.ownBlock ≠ some b) -> ∀ g, v2.ownBlock = some g -> g < W.heap.size -> (W'.setCell ⟨bm, 3, none⟩ nm').heap[g]? = W.heap[g]? := fun ho2 hd g hg2 hl =>
   (Below.heap_setCell W' ⟨bm, 3, none⟩ nm' g (qcd ho2 hg2)).trans (hg.block g hl fun e => hd g e.symm hg2)
 refine ⟨(h.rdr.grown hg fun g e => (h.nAt e).1).field 3 nm' rfl, h.rest, qal h.pown fun g e => hne h.pown (fun b h1 h2 => h.pn b h2 h1) g e (h.pAt e).2, h.pst.kept hk, ?_, ?_, qal h.town fun g e => hne h.town h.nt g e (h.tAt e).2, fun x hx => (h.tms x hx).kept (fun b hb => (hk b hb).1) (fun b hb => (hk b hb).2), h.teq, ?_, h.pt, ?_, h.made, h.few, fun x o hx => ⟨(hkB x (h.prot x o hx).2).2.trans (h.prot x o hx).1, (hkB x (h.prot x o hx).2).1⟩⟩
 . show World.ownsRow _ _ _ _ _ (σ.names ++ [s]).length _
   rw [List.length_append, List.map_append]
   exact qal ho fun g e => Below.heap_setCell W' ⟨bm, 3, none⟩ nm' g (qcd ho e)
 . intro x hx
   rcases List.mem_append.1 hx with hx | hx
   . exact h.nsz x hx
   . rw [List.mem_singleton.1 hx]; exact hs
 . intro b hb hn
   rcases hat with e | e
   . exact h.pn b hb (e ▸ hn)
   . rw [e] at hn; injection hn with hn; have := (h.pAt hb).2; omega
 . intro b hb hn
   rcases hat with e | e
   . exact h.nt b (e ▸ hb) hn
   . rw [e] at hb; injection hb with hb; have := (h.tAt hn).2; omega
theorem St.unname {NA : Option Addr} {nc n : Nat} (h : St W base bm A c ts σ k pl (.slice NA (n + 1) nc) tm vs xs) (hn : σ.names.length = n + 1) :
   St (W.setCell ⟨bm, 3, none⟩ (.slice NA n nc)) base bm A c ts { σ with names := σ.names.dropLast } k pl (.slice NA n nc) tm vs xs := by
 have hkB : ∀ b, FixB W bm pl (.slice NA (n + 1) nc) tm b -> FixB (W.setCell ⟨bm, 3, none⟩ (.slice NA n nc)) bm pl (.slice NA n nc) tm b /\ (W.setCell ⟨bm, 3, none⟩ (.slice NA n nc)).heap[b]? = W.heap[b]? := fun b hb => by
   have he := Below.heap_setCell W ⟨bm, 3, none⟩ (.slice NA n nc) b hb.box
   exact ⟨hb.keep he (qaj _ _) (qlJ _ _ _ _ _) (qaj _ _), he⟩
 have hk := qgM hkB
 have ho := h.nown
 rw [hn] at ho
 have hc := qgN ho (Nat.le_succ n)
 rw [Nat.mul_one, <- List.map_take] at hc
 have e2 : σ.names.dropLast = σ.names.take n := by rw [List.dropLast_eq_take, hn]; rfl
 refine ⟨h.rdr.field 3 _ rfl, h.rest, qal h.pown fun g e => Below.heap_setCell W ⟨bm, 3, none⟩ _ g (qcd h.pown e), h.pst.kept hk, ?_, ?_, qal h.town fun g e => Below.heap_setCell W ⟨bm, 3, none⟩ _ g (qcd h.town e), fun x hx => (h.tms x hx).kept (fun b hb => (hk b hb).1) (fun b hb => (hk b hb).2), h.teq, ?_, h.pt, ?_, h.made, h.few, fun x o hx => ⟨(hkB x (h.prot x o hx).2).2.trans (h.prot x o hx).1, (hkB x (h.prot x o hx).2).1⟩⟩
 . show World.ownsRow _ _ _ _ _ σ.names.dropLast.length (σ.names.dropLast.map _)
   rw [e2, List.length_take, hn, show min n (n + 1) = n by omega]
   exact qal hc fun g e => Below.heap_setCell W ⟨bm, 3, none⟩ _ g (qcd hc e)
 . intro x hx
   exact h.nsz x (List.mem_of_mem_take (i := n) (by rw [<- e2]; exact hx))
 . intro b hb; rw [qcp NA _ (n + 1)]; exact h.pn b hb
 . intro b hb; exact h.nt b (by rw [qcp NA _ n]; exact hb)
theorem St.count (h : St W base bm A c ts σ k pl nm tm vs xs) (hm : σ.made + 1 <= 10001) : St (W.setCell ⟨bm, 5, none⟩ (.int .i64 (σ.made + 1 : Nat))) base bm A c ts { σ with made := σ.made + 1 } k pl nm tm vs xs := by
 have hkB : ∀ b, FixB W bm pl nm tm b -> FixB (W.setCell ⟨bm, 5, none⟩ (.int .i64 (σ.made + 1 : Nat))) bm pl nm tm b /\ (W.setCell ⟨bm, 5, none⟩ (.int .i64 (σ.made + 1 : Nat))).heap[b]? = W.heap[b]? := fun b hb => by
   have he := Below.heap_setCell W ⟨bm, 5, none⟩ (.int .i64 (σ.made + 1 : Nat)) b hb.box
   exact ⟨hb.keep he (qaj _ _) (qaj _ _) (qaj _ _), he⟩
 have hk := qgM hkB
 exact ⟨h.rdr.field 5 _ rfl, h.rest, qal h.pown fun g e => Below.heap_setCell W ⟨bm, 5, none⟩ _ g (qcd h.pown e), h.pst.kept hk, qal h.nown fun g e => Below.heap_setCell W ⟨bm, 5, none⟩ _ g (qcd h.nown e), h.nsz, qal h.town fun g e => Below.heap_setCell W ⟨bm, 5, none⟩ _ g (qcd h.town e), fun x hx => (h.tms x hx).kept (fun b hb => (hk b hb).1) (fun b hb => (hk b hb).2), h.teq, h.pn, h.pt, h.nt, hm, Nat.le_succ_of_le h.few, fun x o hx => ⟨(hkB x (h.prot x o hx).2).2.trans (h.prot x o hx).1, (hkB x (h.prot x o hx).2).1⟩⟩
end
variable [Inhabited PE]
def Rep (W : World) (base bm : Nat) (A : Option Addr) (c : Nat) (ts : List Tok) (σ : PS) : Prop := ∃ k pl nm tm vs xs, St W base bm A c ts σ k pl nm tm vs xs
theorem Rep.later {W W' : World} {base bm : Nat} {A : Option Addr} {c : Nat} {ts : List Tok} {σ : PS} (h : Rep W base bm A c ts σ) (hb : Below W.heap.size W W') : Rep W' base bm A c ts σ := by
 obtain ⟨k, pl, nm, tm, vs, xs, h⟩ := h
 exact ⟨k, pl, nm, tm, vs, xs, h.later hb⟩
def Res (base bm : Nat) (A : Option Addr) (c : Nat) (ts : List Tok) (o : Out) (e : Ending) (w' : World) : Prop := match o with
 | .ok τ => e = .returned (.tuple #[]) /\ Rep w' base bm A c ts τ
 | .bad τ n => e = qhH n /\ Rep w' base bm A c ts τ
end Go.Proofs.YtjnfhebbphdchaaGreatDoor.Pa
namespace Go.Proofs.YtjnfhebbphdchaaGreatDoor
open Go.RowKit Go.Shelf Go.Tm
def set4 (W : World) (b : Nat) (v0 v1 v2 v3 : Value) : World := (((W.setCell ⟨b, 0, none⟩ v0).setCell ⟨b, 1, none⟩ v1).setCell ⟨b, 2, none⟩ v2).setCell ⟨b, 3, none⟩ v3
theorem qfs {W : World} {b x : Nat} {v0 v1 v2 v3 : Value} (h : x ≠ b) : (set4 W b v0 v1 v2 v3).heap[x]? = W.heap[x]? :=
 (((Below.heap_setCell _ _ _ _ h).trans (Below.heap_setCell _ _ _ _ h)).trans (Below.heap_setCell _ _ _ _ h)).trans (Below.heap_setCell _ _ _ _ h)
theorem qbr {W : World} {b : Nat} {u0 u1 u2 u3 v0 v1 v2 v3 : Value} {ty : TypeId} (h : W.heap[b]? = some (.cells #[u0, u1, u2, u3] ty (0, 0))) : (set4 W b v0 v1 v2 v3).heap[b]? = some (.cells #[v0, v1, v2, v3] ty (0, 0)) :=
 heap_setCell_same _ b 3 _ _ _ (heap_setCell_same _ b 2 _ _ _ (heap_setCell_same _ b 1 _ _ _ (heap_setCell_same W b 0 _ _ v0 h)))
theorem qaV {n : Nat} {V W : World} {b : Nat} {v0 v1 v2 v3 : Value} (h : Below n V W) (hb : n <= b) : Below n V (set4 W b v0 v1 v2 v3) :=
 (((h.setCell (p := ⟨b, 0, none⟩) hb _).setCell (p := ⟨b, 1, none⟩) hb _).setCell (p := ⟨b, 2, none⟩) hb _).setCell (p := ⟨b, 3, none⟩) hb _
theorem qgO {W : World} {b : Nat} {v0 v1 v2 v3 : Value} : (set4 W b v0 v1 v2 v3).heap.size = W.heap.size := by simp [set4]
theorem qoq : (Tryz.prog.info? 26).map (fun i => (i.zero, i.size, i.bytes)) = some (some (.agg #[.int .i64 0, .string ⟨#[]⟩, .int .i64 0, .slice none 0 0]), 4, 56) := by kernel_rfl
theorem qaO {P : Program} {ops : Array Oper} {o : Oper} {a : Act} {w : World} {K : Act -> World -> Prop} {Q : Exit -> Act -> World -> Prop} {E : Prop}
   (hg : o.guard = none) (s x : Operand) (t : TypeId) (hop : o.op = Op.call { callee := Callee.builtin Builtin.append, args := #[s, x], argTypes := #[t, t] })
   (base : Nat) (e : TypeId) (i : TypeInfo) (z : Value) (size bytes : Nat) (h1 : P.underlying t = some (.slice e)) (h2 : P.info? e = some i) (h3 : i.zero = some z) (h4 : i.size = size) (h5 : i.bytes = bytes) (h6 : z.cells.size = size) (h7 : 0 < size)
   (v : Value) (n : Nat) (xs : List Value) (hs : a.eval s = v) (hown : w.ownsRow base e size v n xs)
   (ad : Addr) (m c : Nat) (news : List Value) (hx : a.eval x = .slice (some ad) m c) (hn : news.length = m * size) (hc : ∀ j u, news[j]? = some u -> w.cell? (ad.add j) = some u) (h1c : ∀ u ∈ news, u.oneCell' = true)
   (b1 : n + m <= maxLen) (b2 : (n + m) * bytes <= 140737488355328) (hbase : base <= w.heap.size)
   (hK : ∀ v' w', w'.ownsRow base e size v' (n + m) (xs ++ news) -> w.grownBy w' v.ownBlock -> (v'.ownBlock = v.ownBlock ∨ v'.ownBlock = some w.heap.size) -> K (a.put o.dst v') w') :
   if Region.wanted o (yielded ops a.tmps) = true then Oper.wp P o a w K Q else E := by
 have hw : Region.wanted o (yielded ops a.tmps) = true := by simp [Region.wanted, hg]
 rw [if_pos hw]
 obtain ⟨v', w', hrun, r1, r2, _, r4⟩ := run_append_own_at (P := P) w base t o.type e i z size bytes h1 h2 h3 h4 h5 h6 h7 v n xs hown ad m c news hn hc h1c b1 b2 hbase
 unfold Oper.wp
 simp [execOp, hop, resolve, invoke, builtin, hs, hx, hrun, Result.andThen]
 exact hK v' w' r1 r2 r4
theorem qrP (x : Go.Tm.T × Option Addr × Nat) (u : Value) (hu : u ∈ tmC x) : u.oneCell' = true := by
 unfold tmC at hu
 simp at hu
 rcases hu with rfl | rfl | rfl | rfl <;> rfl
end Go.Proofs.YtjnfhebbphdchaaGreatDoor
namespace Go
theorem qgP {l n : Nat} {P : Program} {id : Nat} {l' : List Oper} {Q : Exit -> Act -> World -> Prop} {S : World -> Prop} {a : Act} {w : World} (hm : P.follows .mixedOrders = true) (hn : l'.all (fun o => !o.late) = true) (hlo : ¬ LetsOut Q)
   (h : wpAnyH P .any l'.toArray Q S l'.toArray.size (Array.replicate l'.toArray.size false) a w.drew) : (Code.region id l'.toArray true).wpIn (Fence.wide.inRound l) n P Q a w :=
 wpIn_region_any hm (qcE (qiZ hn) hlo _ _ _ _ (wpAny_of_held _ _ _ _ h))
end Go
namespace Go.Proofs.YtjnfhebbphdchaaGreatDoor.Pa
open Go.RowKit Go.Shelf Go.Tm Go.Lx
attribute [local go_sem] Oper.semAt_some
section
variable [Inhabited PE]
structure PI (w : World) (B base bm : Nat) (A : Option Addr) (c : Nat) (ts : List Tok) (σ : PS) (k : Nat) (nm tm : Value) (xs : List (Go.Tm.T × Option Addr × Nat)) (ss : List Stp) (us : List Value) (rb cb b : Nat) (m : Nat) (W : World) (pl : Value) (vs : List Value) : Prop where
 st : St W base bm A c ts { σ with plan := ss.drop (us.length - m) ++ σ.plan } k pl nm tm vs xs
 ok : Steps W (Fix W bm pl nm tm) ss us
 below : Below bm w W
 box : W.heap[rb]? = some (.cells #[.pointer (some ⟨bm, 0, none⟩)] 163 (0, 0))
 fr : Fix W bm pl nm tm rb
 fc : Fix W bm pl nm tm cb
 fb : Fix W bm pl nm tm b
 sz : B <= W.heap.size
end
theorem Steps.get {W : World} {p : Nat -> Prop} : ∀ {l : List Stp} {vs : List Value}, Steps W p l vs -> ∀ (j : Nat) (h : j < l.length), StpAt W p l[j] (vs.getD j undef)
 | _ :: _, _ :: _, h, 0, _ => h.1
 | _ :: l, _ :: vs, h, j + 1, hj => Steps.get (l := l) (vs := vs) h.2 j (by simpa using hj)
 | [], _, _, _, hj => absurd hj (Nat.not_lt_zero _)
 | _ :: _, [], h, _, _ => h.elim
theorem qor {ss : List Stp} {n m : Nat} (h : m < n) (hl : n = ss.length) : ss.drop (n - (m + 1)) = ss[n - 1 - m]'(by omega) :: ss.drop (n - m) := by
 rw [List.drop_eq_getElem_cons (by omega)]
 congr 1
 . congr 1; omega
 . congr 1; omega
theorem qqc {n x : Nat} {pre : List Nat} (h : pre ++ [x] <+: (List.range n).reverse) : pre.length < n /\ x = n - 1 - pre.length := by
 have hl := h.length_le
 rw [List.length_append, List.length_singleton, List.length_reverse, List.length_range] at hl
 refine ⟨by omega, ?_⟩
 have h2 := h.getElem (i := pre.length) (by simp)
 simpa using h2
section
variable [Inhabited PE]
theorem qqd {W W' : World} {bm : Nat} {pl pl' nm tm : Value} (hg : W.grownBy W' pl.ownBlock) (hat : pl'.ownBlock = pl.ownBlock ∨ pl'.ownBlock = some W.heap.size) (x : Nat) (hb : Fix W bm pl nm tm x) :
   Fix (W'.setCell ⟨bm, 2, none⟩ pl') bm pl' nm tm x /\ (W'.setCell ⟨bm, 2, none⟩ pl').heap[x]? = W.heap[x]? := by
 have he := (Below.heap_setCell W' ⟨bm, 2, none⟩ pl' x hb.box).trans (hg.block x hb.lt (Ne.symm hb.pl))
 exact ⟨hb.keep he (qix hat) (qaj _ _) (qaj _ _), he⟩
theorem PI.cells {w : World} {B base bm : Nat} {A : Option Addr} {c : Nat} {ts : List Tok} {σ : PS} {k : Nat} {nm tm : Value} {xs : List (Go.Tm.T × Option Addr × Nat)} {ss : List Stp} {us : List Value} {rb cb b m : Nat} {W W' : World} {pl : Value} {vs : List Value}
   (h : PI w B base bm A c ts σ k nm tm xs ss us rb cb b m W pl vs) (hB : bm < B) (hc : CalmK B W W') : PI w B base bm A c ts σ k nm tm xs ss us rb cb b m W' pl vs := by
 have hk : ∀ x, Fix W bm pl nm tm x -> Fix W' bm pl nm tm x /\ W'.heap[x]? = W.heap[x]? := fun x hb => by
   obtain ⟨o, ho, hoc⟩ := hb.cel
   have he := (hc.same x o ho (.inr hoc)).trans ho.symm
   exact ⟨hb.keep he (qaj _ _) (qaj _ _) (qaj _ _), he⟩
 refine ⟨h.st.cells fun x o ho hoc => hc.same x o ho (.inr hoc), h.ok.kept hk, ?_, (hk rb h.fr).2.trans h.box, (hk rb h.fr).1, (hk cb h.fc).1, (hk b h.fb).1, Nat.le_trans h.sz hc.below.size⟩
 refine ⟨hc.below.os.trans h.below.os, hc.below.tape.trans h.below.tape, hc.below.output.trans h.below.output, Nat.le_trans h.below.size hc.below.size, fun x hx => ?_⟩
 have hsz := h.sz
 obtain ⟨o, ho⟩ : ∃ o, W.heap[x]? = some o := ⟨_, Array.getElem?_eq_getElem (by omega)⟩
 exact (hc.same x o ho (.inl (by omega))).trans (ho.symm.trans (h.below.block x hx))
end
theorem qos : (Tryz.prog.info? 210).map (fun i => (i.zero, i.size, i.bytes)) = some (some .nilFunc, 1, 8) := by kernel_rfl
theorem StpAt.fn {W : World} {p : Nat -> Prop} {s : Stp} {v : Value} (h : StpAt W p s v) : ∃ f c, v = .func (.func f) #[] c := by
 cases s with
 | word s => obtain ⟨b, rfl, _⟩ := h; exact ⟨_, _, rfl⟩
 | made k n => obtain ⟨b, c, rfl, _⟩ := h; exact ⟨_, _, rfl⟩
 | _ => cases h; exact ⟨_, _, rfl⟩
theorem qgi {W : World} {b : Nat} {v : Value} {ty : TypeId} (h : W.heap[b]? = some (.cells #[v] ty (0, 0))) (j : Nat) (u : Value) (hj : [v][j]? = some u) : W.cell? ((⟨b, 0, none⟩ : Addr).add j) = some u := by
 rw [qdH, Nat.zero_add, qaa _ _ j _ _ _ h, <- hj]
 show ([v].toArray)[j]? = _
 rw [List.getElem?_toArray]
section
variable [Inhabited PE]
theorem qqe (base bm : Nat) (A : Option Addr) (c : Nat) (ts : List Tok) (σ : PS) (k : Nat) (pl nm tm : Value) (vs : List Value) (xs : List (Go.Tm.T × Option Addr × Nat)) (ss : List Stp) (us : List Value) (b off cc : Nat) (w : World)
   (h : St w base bm A c ts σ k pl nm tm vs xs) (hs : Steps w (Fix w bm pl nm tm) ss us) (hb : Fix w bm pl nm tm b) (hu : ∀ j, j < us.length -> w.cell? ⟨b, off + j, none⟩ = some (us.getD j undef)) (hl : us.length <= 16) (hp : σ.plan.length <= 1099511627776) :
   Calls Tryz.prog 98 #[.pointer (some ⟨bm, 0, none⟩), .slice (some ⟨b, off, none⟩) us.length cc] w fun e w' => e = .returned (.tuple #[]) /\ Rep w' base bm A c ts { σ with plan := ss ++ σ.plan } /\ Below bm w w' := by
 have hb1 := X.qab w (.cells #[.pointer (some ⟨bm, 0, none⟩)] 163)
 have hx1 := World.alloc_heap_new w (.cells #[.pointer (some ⟨bm, 0, none⟩)] 163)
 have hsz1 : (w.alloc (.cells #[.pointer (some ⟨bm, 0, none⟩)] 163)).heap.size = w.heap.size + 1 := World.size_alloc _ _
 obtain ⟨w1, hw1⟩ : ∃ w1, w.alloc (.cells #[.pointer (some ⟨bm, 0, none⟩)] 163) = w1 := ⟨_, rfl⟩
 rw [hw1] at hb1 hx1 hsz1
 have hb2 := X.qab w1 (.cells #[.slice (some ⟨b, off, none⟩) us.length cc] 164)
 have hc2 := World.alloc_heap_new w1 (.cells #[.slice (some ⟨b, off, none⟩) us.length cc] 164)
 have hsz2 : (w1.alloc (.cells #[.slice (some ⟨b, off, none⟩) us.length cc] 164)).heap.size = w.heap.size + 2 := by rw [World.size_alloc, hsz1]
 have hB2 := hb1.trans (hb2.mono hb1.size)
 have hx2 := (hb2.block w.heap.size (by omega)).trans hx1
 rw [hsz1] at hc2
 refine (callsIn_wide (n := 6)).1 ?_
 refine callsIn_of_wp_marks Tryz.func98 rfl trivial ?_ rfl
 simp only [Tryz.ntmps98, List.size_toArray, List.length_cons, List.length_nil, Nat.reduceAdd, Nat.reduceSub, Array.replicate_succ, Array.replicate_zero, List.push_toArray, List.append_toArray, List.nil_append, List.cons_append]
 gi_wp2
 refine ⟨trivial, ?_⟩
 refine (callsIn_wide.2 (qkJ (some ⟨b, off, none⟩) us.length cc w1)).mono ?_
 rintro e w2 ⟨rfl, hw2⟩
 rw [hw2] at hb2 hc2 hsz2 hB2 hx2
 have h2 := h.later hB2
 have hs2 : Steps w2 (Fix w2 bm pl nm tm) ss us := hs.kept fun x hx => ⟨hx.keep (hB2.block x hx.lt) (qaj _ _) (qaj _ _) (qaj _ _), hB2.block x hx.lt⟩
 have hbl := h.lt
 have hnew : ∀ x, w.heap.size <= x -> (∃ o, w2.heap[x]? = some o /\ o.isCells = true) -> Fix w2 bm pl nm tm x := fun x hx hc =>
   ⟨⟨hc, by omega, fun e => by have := (h.pAt e).2; omega, fun e => by have := (h.nAt e).2; omega, fun e => by have := (h.tAt e).2; omega⟩, h.free hx⟩
 have fr2 := hnew w.heap.size (Nat.le_refl _) ⟨_, hx2, rfl⟩
 have fc2 := hnew (w.heap.size + 1) (by omega) ⟨_, hc2, rfl⟩
 have fb2 : Fix w2 bm pl nm tm b := hb.keep (hB2.block b hb.lt) (qaj _ _) (qaj _ _) (qaj _ _)
 have hu2 : ∀ j, j < us.length -> w2.cell? ⟨b, off + j, none⟩ = some (us.getD j undef) := fun j hj => (World.cell?_of_block (a := ⟨b, off + j, none⟩) (hB2.block b hb.lt)).trans (hu j hj)
 have hbB : b < w.heap.size := hb.lt
 have hP0 : PI w w2.heap.size base bm A c ts σ k nm tm xs ss us w.heap.size (w.heap.size + 1) b 0 w2 pl vs := by
   refine ⟨?_, hs2, hB2.mono (by omega), hx2, fr2, fc2, fb2, Nat.le_refl _⟩
   have e : ss.drop (us.length - 0) = [] := by rw [Nat.sub_zero, hs.len, List.drop_length]
   rw [e]; exact h2
 have hseq := qqb 5 (w.heap.size + 1) b off cc us w2 (by omega) hc2 hu2 (by omega)
 have hSl := hid hs.len
 replace hP0 := hid hP0
 clear hb2 hc2 hB2 hx2 hx1 hb1 h2 hs2 fr2 fc2 fb2 hu2 hw1 hw2
 replace hnew := hid hnew
 replace hs := hid hs
 replace h := hid h
 have hseq' := hid hseq
 clear hseq
 gi_wp2
 refine qkI (Kp := fun x => x = w.heap.size + 1 ∨ x = b) (gf := 161) (lb := #[.pointer (some ⟨w.heap.size + 1, 0, none⟩)]) rfl (enters_of Tryz.func161 (by kernel_rfl) rfl)
   hseq'.out (Below.refl _ _) (fun _ => rfl) (fun x hx => by rcases hx with rfl | rfl <;> omega)
   (fun pre W => ∃ pl' vs', PI w w2.heap.size base bm A c ts σ k nm tm xs ss us w.heap.size (w.heap.size + 1) b pre.length W pl' vs')
   (fun pre W W' ⟨pl', vs', h1⟩ hc => ⟨pl', vs', h1.cells (by omega) hc⟩)
   ⟨pl, vs, hP0.out⟩
   (fun x a' _ => a' = { tmps := #[.pointer (some ⟨bm, 0, none⟩), .slice (some ⟨b, off, none⟩) us.length cc, .pointer (some ⟨w.heap.size, 0, none⟩), undef, undef, us.getD x undef, .slice (some ⟨b, off, none⟩) us.length cc, .func (.func 161) #[] #[.pointer (some ⟨w.heap.size + 1, 0, none⟩)], .int .i64 x, us.getD x undef, undef, undef, undef, undef, undef, undef, undef, undef, undef, undef], defers := [] }) (fun _ _ _ _ _ _ h _ _ _ => h) ?assign ?body ?done
 case assign =>
   intro l pre x W K hI hK
   gi_wp2
   exact hK _ W (Below.refl _ _) hI (by simp)
 case body =>
   rintro l pre x a' W ⟨pl', vs', hP⟩ rfl hpre
   obtain ⟨hm, rfl⟩ := qqc hpre
   have hval := hP.ok.get (us.length - 1 - pre.length) (by rw [<- hSl.out]; omega)
   generalize us.getD (us.length - 1 - pre.length) undef = val at hval ⊢
   obtain ⟨vf, vc, rfl⟩ := hval.fn
   have hone : (Value.func (.func vf) #[] vc).oneCell' = true := rfl
   obtain ⟨PA, pc, rfl, hpc, hpm⟩ := qbd hP.st.pown
   have hW6 := (Below.refl W.heap.size W).drew.alloc (by simp) (.cells #[(.func (.func vf) #[] vc)] 210)
   have hst6 := hP.st.later hW6
   have hx6 := World.alloc_heap_new W.drew (.cells #[(.func (.func vf) #[] vc)] 210)
   have q0 : W.drew.cell? ⟨w.heap.size, 0, none⟩ = some (.pointer (some ⟨bm, 0, none⟩)) := qaa W w.heap.size 0 _ _ _ hP.box
   have q2 : W.drew.cell? ⟨bm, 2, none⟩ = some (.slice PA vs'.length pc) := qaa W bm 2 _ _ _ hP.st.rdr.box
   obtain ⟨W6, hW6e⟩ : ∃ X, W.drew.alloc (.cells #[(.func (.func vf) #[] vc)] 210) = X := ⟨_, rfl⟩
   rw [hW6e] at hW6 hst6 hx6
   have hr6 := (hW6.block w.heap.size hP.fr.lt).trans hP.box
   have q6 : W6.cell? ⟨w.heap.size, 0, none⟩ = some (.pointer (some ⟨bm, 0, none⟩)) := qaa W6 w.heap.size 0 _ _ _ hr6
   have q62 : W6.cell? ⟨bm, 2, none⟩ = some (.slice PA vs'.length pc) := qaa W6 bm 2 _ _ _ hst6.rdr.box
   have hF6 : ∀ x, Fix W bm (.slice PA vs'.length pc) nm tm x -> Fix W6 bm (.slice PA vs'.length pc) nm tm x /\ W6.heap[x]? = W.heap[x]? := fun x hx => ⟨hx.keep (hW6.block x hx.lt) (qaj _ _) (qaj _ _) (qaj _ _), hW6.block x hx.lt⟩
   have hx6' : W6.heap[W.heap.size]? = some (.cells #[(.func (.func vf) #[] vc)] 210 (0, 0)) := hx6
   obtain ⟨ii, hi0, hi1⟩ : ∃ i, Tryz.prog.info? 210 = some i /\ (i.zero, i.size, i.bytes) = (some .nilFunc, 1, 8) := by
     have h9 := qos
     cases hh : Tryz.prog.info? 210 with
     | none => rw [hh] at h9; cases h9
     | some i => rw [hh] at h9; exact ⟨i, rfl, by injection h9⟩
   injection hi1 with hz0 hi1
   injection hi1 with hz1 hz2
   have hbW : bm < W.heap.size := hP.st.lt
   have hlen : vs'.length <= 1099511627776 + 16 := by
     have h1 := hP.st.plen
     rw [List.length_append, List.length_drop] at h1
     have h2 := hSl.out
     omega
   have hsz6 : W6.heap.size = W.heap.size + 1 := by rw [<- hW6e]; simp
   have fin : ∀ v7 w7, w7.ownsRow (bm + 1) 210 1 v7 (vs'.length + 1) (vs'.reverse ++ [(.func (.func vf) #[] vc)]) -> W6.grownBy w7 (Value.slice PA vs'.length pc).ownBlock -> (v7.ownBlock = (Value.slice PA vs'.length pc).ownBlock ∨ v7.ownBlock = some W6.heap.size) →
       w7.cell? ⟨w.heap.size, 0, none⟩ = some (.pointer (some ⟨bm, 0, none⟩)) /\ (∃ u, w7.cell? ⟨bm, 2, none⟩ = some u) /\ w7.frozen? ⟨bm, 2, none⟩ = false /\ (w7.setCell ⟨bm, 2, none⟩ v7).cell? ⟨w.heap.size, 0, none⟩ = some (.pointer (some ⟨bm, 0, none⟩)) ∧
       KeepsFrom w2.heap.size W (w7.setCell ⟨bm, 2, none⟩ v7) /\ (∀ x, x = w.heap.size + 1 ∨ x = b -> (w7.setCell ⟨bm, 2, none⟩ v7).heap[x]? = W.heap[x]?) /\ ∃ pl' vs', PI w w2.heap.size base bm A c ts σ k nm tm xs ss us w.heap.size (w.heap.size + 1) b (pre.length + 1) (w7.setCell ⟨bm, 2, none⟩ v7) pl' vs' := by
     intro v7 w7 ho hg hat
     have hF := qqd (nm := nm) (tm := tm) (bm := bm) hg hat
     have hF9 : ∀ x, Fix W bm (.slice PA vs'.length pc) nm tm x -> Fix (w7.setCell ⟨bm, 2, none⟩ v7) bm v7 nm tm x /\ (w7.setCell ⟨bm, 2, none⟩ v7).heap[x]? = W.heap[x]? := fun x hx => ⟨(hF x (hF6 x hx).1).1, (hF x (hF6 x hx).1).2.trans (hF6 x hx).2⟩
     have hbne : some bm ≠ (Value.slice PA vs'.length pc).ownBlock := fun e => by have := (hst6.pAt e.symm).1; omega
     have hb7 := (hg.block bm hst6.lt hbne).trans hst6.rdr.box
     have hr7 := (hg.block w.heap.size (hF6 _ hP.fr).1.lt (Ne.symm (hF6 _ hP.fr).1.pl)).trans hr6
     have hr9 := (hF9 _ hP.fr).2.trans hP.box
     have hST := hst6.plan (hval.kept hF6) hg ho hat
     have hdr := qor hm hSl.out
     refine ⟨qaa w7 w.heap.size 0 _ _ _ hr7, ⟨_, qaa w7 bm 2 _ _ _ hb7⟩, qac hb7 2, qaa _ w.heap.size 0 _ _ _ hr9, ⟨?_, ?_⟩, ?_, v7, (.func (.func vf) #[] vc) :: vs', ?_, hP.ok.kept hF9, ?_, hr9, (hF9 _ hP.fr).1, (hF9 _ hP.fc).1, (hF9 _ hP.fb).1, ?_⟩
     . have := hg.size; simp; omega
     . intro x o hx1 hx2 hx3
       have hxl : x < W.heap.size := (Array.getElem?_eq_some_iff.1 hx2).1
       have hxb : x ≠ bm := fun e => by have := hP.st.rdr.box; rw [<- e, hx2] at this; cases this; cases hx3
       have hxo : some x ≠ (Value.slice PA vs'.length pc).ownBlock := fun e => by
         obtain ⟨cur, h8, _⟩ := qcc hP.st.pown e.symm
         rw [hx2] at h8; cases h8; cases hx3
       exact (Below.heap_setCell w7 ⟨bm, 2, none⟩ v7 x hxb).trans ((hg.block x (by omega) hxo).trans ((hW6.block x hxl).trans hx2))
     . rintro x (rfl | rfl)
       . exact (hF9 _ hP.fc).2
       . exact (hF9 _ hP.fb).2
     . rw [hdr]; exact hST
     . have h8 : Below bm W6 w7 := ⟨hg.os, hg.tape, hg.output, hg.size, fun x hx => hg.block x (by omega) fun e => by have := (hst6.pAt e.symm).1; omega⟩
       exact hP.below.trans ((hW6.mono (by omega)).trans (h8.setCell (p := ⟨bm, 2, none⟩) (Nat.le_refl _) _))
     . have := hg.size; have := hP.sz; simp; omega
   replace fin := hid fin
   have hown6 := hid hst6.pown
   have hne1 : ¬ bm = w.heap.size := by omega
   have hbz : bm + 1 <= W6.heap.size := by omega
   have hi1 : ii.bytes = 8 := hz2
   have hb8 : (vs'.length + 1) * ii.bytes <= 140737488355328 := by rw [hi1]; omega
   have hx6'' := hx6'
   have hlen2 := hlen
   clear hF6 hval hP hW6 hst6 hx6 hx6' hr6 hpc hpm hP0 hseq' hnew hb hu hl hp hlen hpre hm
   replace hone := hid hone
   replace hx6'' := hid hx6''
   replace hsz6 := hid hsz6
   gi_wp2
   refine qgP (S := fun X => X.cell? ⟨w.heap.size, 0, none⟩ = some (.pointer (some ⟨bm, 0, none⟩))) (by kernel_rfl) (by kernel_rfl) (fun ⟨_, _, h⟩ => h) ?_
   refine wpAnyH_take (i := 0) (oi := { dst := some 10, op := Op.load 163 (Operand.tmp 2), type := 163, pos := "reader.go:43", after := #[], guard := none }) (v := .pointer (some ⟨bm, 0, none⟩)) rfl (by kernel_rfl) (by kernel_rfl) (by kernel_rfl) (fun _ _ _ h => h) (Or.inl ⟨by rfl, ?_⟩) q0 ?_
   . intro w hSw
     go_simp
   try simp only [Act.put, List.setIfInBounds_toArray, List.set_cons_zero, List.set_cons_succ]
   refine wpAnyH_take (i := 1) (oi := { dst := some 11, op := Op.load 163 (Operand.tmp 2), type := 163, pos := "reader.go:43", after := #[], guard := none }) (v := .pointer (some ⟨bm, 0, none⟩)) rfl (by kernel_rfl) (by kernel_rfl) (by kernel_rfl) (fun _ _ _ h => h) (Or.inl ⟨by rfl, ?_⟩) q0 ?_
   . intro w hSw
     go_simp
   try simp only [Act.put, List.setIfInBounds_toArray, List.set_cons_zero, List.set_cons_succ]
   refine wpAnyH_take (i := 2) (oi := { dst := some 12, op := Op.nilCheck (Operand.tmp 11), type := 0, pos := "reader.go:43", after := #[{ on := 1, ground := Ground.data }], guard := none }) (v := .pointer (some ⟨bm, 0, none⟩)) rfl (by kernel_rfl) (by kernel_rfl) (by kernel_rfl) (fun _ _ _ h => h) (Or.inl ⟨by rfl, ?_⟩) q0 ?_
   . intro w hSw
     go_simp
   try simp only [Act.put, List.setIfInBounds_toArray, List.set_cons_zero, List.set_cons_succ]
   refine wpAnyH_take (i := 3) (oi := { dst := some 13, op := Op.fieldAddr 166 (Operand.tmp 12) 2, type := 0, pos := "reader.go:43", after := #[{ on := 2, ground := Ground.data }], guard := none }) (v := .pointer (some ⟨bm, 2, none⟩)) rfl (by kernel_rfl) (by kernel_rfl) (by kernel_rfl) (fun _ _ _ h => h) (Or.inl ⟨by rfl, ?_⟩) q0 ?_
   . intro w hSw
     go_simp
   try simp only [Act.put, List.setIfInBounds_toArray, List.set_cons_zero, List.set_cons_succ]
   refine wpAnyH_take (i := 5) (oi := { dst := some 15, op := Op.move (Operand.tmp 5), type := 210, pos := "reader.go:43", after := #[], guard := none }) (v := (.func (.func vf) #[] vc)) rfl (by kernel_rfl) (by kernel_rfl) (by kernel_rfl) (fun _ _ _ h => h) (Or.inl ⟨by rfl, ?_⟩) q0 ?_
   . intro w hSw
     go_simp
   try simp only [Act.put, List.setIfInBounds_toArray, List.set_cons_zero, List.set_cons_succ]
   refine wpAnyH_ready (rs := [4, 6]) (by kernel_rfl) (by simp) ?_
   refine AllReadyH.cons (o := { dst := some 14, op := Op.load 164 (Operand.tmp 13), type := 164, pos := "reader.go:43", after := #[{ on := 3, ground := Ground.data }], guard := none }) rfl (fun K hK => ?_) (AllReadyH.cons (o := { dst := some 16, op := Op.buildSlice 164 1 #[(0, Operand.tmp 15)], type := 164, pos := "reader.go:43", after := #[{ on := 5, ground := Ground.data }], guard := none }) rfl (fun K hK => ?_) AllReadyH.nil)
   . go_simp
     refine hK.out _ _ q0 (fun hHeld => ?_)
     clear hK K
     try simp only [Act.put, List.setIfInBounds_toArray, List.set_cons_zero, List.set_cons_succ]
     refine wpAnyH_ready (rs := [6]) (by kernel_rfl) (by simp) ?_
     refine AllReadyH.cons (o := { dst := some 16, op := Op.buildSlice 164 1 #[(0, Operand.tmp 15)], type := 164, pos := "reader.go:43", after := #[{ on := 5, ground := Ground.data }], guard := none }) rfl (fun K hK => ?_) AllReadyH.nil
     go_simp
     refine hK.out _ _ q6 (fun hHeld => ?_)
     clear hK K
     try simp only [Act.put, List.setIfInBounds_toArray, List.set_cons_zero, List.set_cons_succ]
     refine wpAnyH_ready (rs := [7]) (by kernel_rfl) (by simp) ?_
     refine AllReadyH.cons (o := { dst := some 17, op := Op.call { callee := Callee.builtin Builtin.append, args := #[Operand.tmp 14, Operand.tmp 16], argTypes := #[164, 164] }, type := 164, pos := "reader.go:43", after := #[{ on := 4, ground := Ground.data }, { on := 6, ground := Ground.data }], guard := none }) rfl (fun K hK => ?_) AllReadyH.nil
     refine qaO rfl (.tmp 14) (.tmp 16) 164 rfl (bm + 1) 210 ii .nilFunc 1 8 Tryz.underlying164 hi0 hz0 hz1 hz2 rfl (by decide) (.slice PA vs'.length pc) vs'.length vs'.reverse (by go_simp) hown6.out ⟨W.heap.size, 0, none⟩ 1 1 [(.func (.func vf) #[] vc)] (by go_simp) rfl (qgi hx6''.out) (fun u hu => by rw [List.mem_singleton.1 hu]; rfl) (by unfold maxLen; omega) (by omega) hbz ?_
     intro v7 w7 ho7 hg7 hat7
     have hend0 := fin.out v7 w7 ho7 hg7 hat7
     obtain ⟨A7, c7, rfl, _, _⟩ := qbd ho7
     obtain ⟨q7, ⟨u7, p7⟩, f7, q9, hend⟩ := hend0
     replace hend := hid hend
     refine hK.out _ _ q7 (fun hHeld => ?_)
     clear hK K ho7 hg7 hat7
     try simp only [Act.put, List.setIfInBounds_toArray, List.set_cons_zero, List.set_cons_succ]
     refine wpAnyH_take (i := 8) (oi := { dst := some 18, op := Op.nilCheck (Operand.tmp 10), type := 0, pos := "reader.go:43", after := #[{ on := 0, ground := Ground.data }, { on := 0, ground := Ground.phase }, { on := 1, ground := Ground.phase }, { on := 2, ground := Ground.phase }, { on := 3, ground := Ground.phase }, { on := 4, ground := Ground.phase }, { on := 5, ground := Ground.phase }, { on := 6, ground := Ground.phase }, { on := 7, ground := Ground.phase }], guard := none }) (v := .pointer (some ⟨bm, 0, none⟩)) rfl (by kernel_rfl) (by kernel_rfl) (by kernel_rfl) (fun _ _ _ h => h) (Or.inl ⟨by rfl, ?_⟩) q7 ?_
     . intro w hSw
       go_simp
     try simp only [Act.put, List.setIfInBounds_toArray, List.set_cons_zero, List.set_cons_succ]
     refine wpAnyH_take (i := 9) (oi := { dst := some 19, op := Op.fieldAddr 166 (Operand.tmp 18) 2, type := 0, pos := "reader.go:43", after := #[{ on := 8, ground := Ground.data }, { on := 0, ground := Ground.phase }, { on := 1, ground := Ground.phase }, { on := 2, ground := Ground.phase }, { on := 3, ground := Ground.phase }, { on := 4, ground := Ground.phase }, { on := 5, ground := Ground.phase }, { on := 6, ground := Ground.phase }, { on := 7, ground := Ground.phase }], guard := none }) (v := .pointer (some ⟨bm, 2, none⟩)) rfl (by kernel_rfl) (by kernel_rfl) (by kernel_rfl) (fun _ _ _ h => h) (Or.inl ⟨by rfl, ?_⟩) q7 ?_
     . intro w hSw
       go_simp
     try simp only [Act.put, List.setIfInBounds_toArray, List.set_cons_zero, List.set_cons_succ]
     refine wpAnyH_ready (rs := [10]) (by kernel_rfl) (by simp) ?_
     refine AllReadyH.cons (o := { dst := none, op := Op.store 164 (Operand.tmp 19) (Operand.tmp 17), type := 0, pos := "reader.go:43", after := #[{ on := 9, ground := Ground.data }, { on := 7, ground := Ground.data }, { on := 7, ground := Ground.chain }, { on := 0, ground := Ground.phase }, { on := 1, ground := Ground.phase }, { on := 2, ground := Ground.phase }, { on := 3, ground := Ground.phase }, { on := 4, ground := Ground.phase }, { on := 5, ground := Ground.phase }, { on := 6, ground := Ground.phase }, { on := 7, ground := Ground.phase }], guard := none }) rfl (fun K hK => ?_) AllReadyH.nil
     go_simp
     refine hK.out _ _ q9 (fun hHeld => ?_)
     clear hK K
     try simp only [Act.put, List.setIfInBounds_toArray, List.set_cons_zero, List.set_cons_succ]
     refine wpAnyH_done (by kernel_rfl) ?_ _
     obtain ⟨h91, h92, pl9, vs9, h93⟩ := hend.out
     exact ⟨h91, h92, pl9, vs9, by rw [List.length_append, List.length_singleton]; exact h93⟩
   . go_simp
     refine hK.out _ _ q6 (fun hHeld => ?_)
     clear hK K
     try simp only [Act.put, List.setIfInBounds_toArray, List.set_cons_zero, List.set_cons_succ]
     refine wpAnyH_ready (rs := [4]) (by kernel_rfl) (by simp) ?_
     refine AllReadyH.cons (o := { dst := some 14, op := Op.load 164 (Operand.tmp 13), type := 164, pos := "reader.go:43", after := #[{ on := 3, ground := Ground.data }], guard := none }) rfl (fun K hK => ?_) AllReadyH.nil
     go_simp
     refine hK.out _ _ q6 (fun hHeld => ?_)
     clear hK K
     try simp only [Act.put, List.setIfInBounds_toArray, List.set_cons_zero, List.set_cons_succ]
     refine wpAnyH_ready (rs := [7]) (by kernel_rfl) (by simp) ?_
     refine AllReadyH.cons (o := { dst := some 17, op := Op.call { callee := Callee.builtin Builtin.append, args := #[Operand.tmp 14, Operand.tmp 16], argTypes := #[164, 164] }, type := 164, pos := "reader.go:43", after := #[{ on := 4, ground := Ground.data }, { on := 6, ground := Ground.data }], guard := none }) rfl (fun K hK => ?_) AllReadyH.nil
     refine qaO rfl (.tmp 14) (.tmp 16) 164 rfl (bm + 1) 210 ii .nilFunc 1 8 Tryz.underlying164 hi0 hz0 hz1 hz2 rfl (by decide) (.slice PA vs'.length pc) vs'.length vs'.reverse (by go_simp) hown6.out ⟨W.heap.size, 0, none⟩ 1 1 [(.func (.func vf) #[] vc)] (by go_simp) rfl (qgi hx6''.out) (fun u hu => by rw [List.mem_singleton.1 hu]; rfl) (by unfold maxLen; omega) (by omega) hbz ?_
     intro v7 w7 ho7 hg7 hat7
     have hend0 := fin.out v7 w7 ho7 hg7 hat7
     obtain ⟨A7, c7, rfl, _, _⟩ := qbd ho7
     obtain ⟨q7, ⟨u7, p7⟩, f7, q9, hend⟩ := hend0
     replace hend := hid hend
     refine hK.out _ _ q7 (fun hHeld => ?_)
     clear hK K ho7 hg7 hat7
     try simp only [Act.put, List.setIfInBounds_toArray, List.set_cons_zero, List.set_cons_succ]
     refine wpAnyH_take (i := 8) (oi := { dst := some 18, op := Op.nilCheck (Operand.tmp 10), type := 0, pos := "reader.go:43", after := #[{ on := 0, ground := Ground.data }, { on := 0, ground := Ground.phase }, { on := 1, ground := Ground.phase }, { on := 2, ground := Ground.phase }, { on := 3, ground := Ground.phase }, { on := 4, ground := Ground.phase }, { on := 5, ground := Ground.phase }, { on := 6, ground := Ground.phase }, { on := 7, ground := Ground.phase }], guard := none }) (v := .pointer (some ⟨bm, 0, none⟩)) rfl (by kernel_rfl) (by kernel_rfl) (by kernel_rfl) (fun _ _ _ h => h) (Or.inl ⟨by rfl, ?_⟩) q7 ?_
     . intro w hSw
       go_simp
     try simp only [Act.put, List.setIfInBounds_toArray, List.set_cons_zero, List.set_cons_succ]
     refine wpAnyH_take (i := 9) (oi := { dst := some 19, op := Op.fieldAddr 166 (Operand.tmp 18) 2, type := 0, pos := "reader.go:43", after := #[{ on := 8, ground := Ground.data }, { on := 0, ground := Ground.phase }, { on := 1, ground := Ground.phase }, { on := 2, ground := Ground.phase }, { on := 3, ground := Ground.phase }, { on := 4, ground := Ground.phase }, { on := 5, ground := Ground.phase }, { on := 6, ground := Ground.phase }, { on := 7, ground := Ground.phase }], guard := none }) (v := .pointer (some ⟨bm, 2, none⟩)) rfl (by kernel_rfl) (by kernel_rfl) (by kernel_rfl) (fun _ _ _ h => h) (Or.inl ⟨by rfl, ?_⟩) q7 ?_
     . intro w hSw
       go_simp
     try simp only [Act.put, List.setIfInBounds_toArray, List.set_cons_zero, List.set_cons_succ]
     refine wpAnyH_ready (rs := [10]) (by kernel_rfl) (by simp) ?_
     refine AllReadyH.cons (o := { dst := none, op := Op.store 164 (Operand.tmp 19) (Operand.tmp 17), type := 0, pos := "reader.go:43", after := #[{ on := 9, ground := Ground.data }, { on := 7, ground := Ground.data }, { on := 7, ground := Ground.chain }, { on := 0, ground := Ground.phase }, { on := 1, ground := Ground.phase }, { on := 2, ground := Ground.phase }, { on := 3, ground := Ground.phase }, { on := 4, ground := Ground.phase }, { on := 5, ground := Ground.phase }, { on := 6, ground := Ground.phase }, { on := 7, ground := Ground.phase }], guard := none }) rfl (fun K hK => ?_) AllReadyH.nil
     go_simp
     refine hK.out _ _ q9 (fun hHeld => ?_)
     clear hK K
     try simp only [Act.put, List.setIfInBounds_toArray, List.set_cons_zero, List.set_cons_succ]
     refine wpAnyH_done (by kernel_rfl) ?_ _
     obtain ⟨h91, h92, pl9, vs9, h93⟩ := hend.out
     exact ⟨h91, h92, pl9, vs9, by rw [List.length_append, List.length_singleton]; exact h93⟩
 case done =>
   rintro D ys W hD rfl ⟨pl', vs', hP⟩ hK
   rw [List.length_reverse, List.length_range] at hP
   obtain ⟨o, ho⟩ : ∃ o, W.heap[D]? = some o := ⟨_, hK⟩
   have hP2 := hP.cells (by omega) (CalmK.putObj (B := w2.heap.size) (.deferred none) hD hK rfl)
   have hbb := hP2.below
   have hR : Rep (W.putObj D (.deferred none)) base bm A c ts { σ with plan := ss ++ σ.plan } := by
     have e : ss.drop (us.length - us.length) = ss := by rw [Nat.sub_self]; rfl
     have h9 := hP2.st
     rw [e] at h9
     exact ⟨k, pl', nm, tm, vs', xs, h9⟩
   replace hR := hid hR
   replace hbb := hid hbb
   clear hP hP2 ho
   gi_wp2
   refine ⟨by simp, .inl ⟨_, _, rfl, run_takeDeferred hK, ?_⟩⟩
   exact ⟨_, results_none rfl _ _ _, rfl, hR.out, hbb.out⟩
end
end Go.Proofs.YtjnfhebbphdchaaGreatDoor.Pa
namespace Go.Proofs.YtjnfhebbphdchaaGreatDoor.Pa
open Go.RowKit Go.Lx
attribute [local go_sem] Oper.semAt_some
theorem qbT (a n : Int) (s : ByteArray) (W : World) : (Instr.field 118 (.agg #[.int .i64 a, .string s, .int .i64 n]) 1).run Tryz.prog W = .ok (.string s) W := by kernel_rfl
attribute [local go_sem] qbT
theorem qah (s : List UInt8) : (X.strOf s).toList = s := by rw [ByteArray.toList_eq, X.qaP]
theorem qrQ (base bm cb : Nat) (A : Option Addr) (c : Nat) (ts : List Tok) (k : Nat) (pl nm tm : Value) (md : Int) (s : List UInt8) (w : World) (h : Rdr w base bm A c ts k pl nm tm md) (hs : w.heap[cb]? = some (.cells #[.string (X.strOf s)] 9 (0, 0))) (hk : (ts.getD k ⟨0, [], 0⟩).text ≠ s) :
   Calls Tryz.prog 184 #[.pointer (some ⟨bm, 0, none⟩), .pointer (some ⟨cb, 0, none⟩)] w fun e w' => e = qhH 2 /\ Below w.heap.size w w' := by
 have hA := fun W (hb : Below w.heap.size w W) => qdy base bm A c ts k pl nm tm md W (h.later hb)
 rw [X.qdu] at hA
 generalize ts.getD k ⟨0, [], 0⟩ = q at hA hk
 obtain ⟨qk, qt, qn⟩ := q
 dsimp only at hA hk
 have hA' := hid hA
 clear hA
 have hc : w.cell? ⟨cb, 0, none⟩ = some (.string (X.strOf s)) := qaa w cb 0 _ _ _ hs
 have hl : cb < w.heap.size := World.lt_of_get hs
 clear h hs
 have hb0 := hid ((Below.refl w.heap.size w).drew)
 have q0 : w.drew.cell? ⟨cb, 0, none⟩ = some (.string (X.strOf s)) := hc
 have hd : ((X.strOf qt).toList == (X.strOf s).toList) = false := by rw [qah, qah]; simpa using hk
 clear hk
 go_enter Tryz.func184, Tryz.ntmps184
 go_wp2_with fail
 go_region_held3 (fun W => W.cell? ⟨cb, 0, none⟩ = some (.string (X.strOf s))) (exact q0) (first | (go_at_call 162; refine (hA'.out w.drew hb0.out).mono ?_; clear q0; rintro e w9 ⟨rfl, hb9⟩; have q0 : w9.cell? ⟨cb, 0, none⟩ = some (.string (X.strOf s)) := (hb9.cell (p := ⟨cb, 0, none⟩) hl).trans hc; replace hb9 := hid hb9))
 go_wp2_with fail
 exact ⟨rfl, rfl, hb0.out.trans hb9.out⟩
theorem qqf (base bm cb : Nat) (A : Option Addr) (c : Nat) (ts : List Tok) (k : Nat) (pl nm tm : Value) (md : Int) (s : List UInt8) (w : World) (h : Rdr w base bm A c ts k pl nm tm md) (hs : w.heap[cb]? = some (.cells #[.string (X.strOf s)] 9 (0, 0))) (hk : (ts.getD k ⟨0, [], 0⟩).text = s) (h0 : s ≠ []) :
   Calls Tryz.prog 184 #[.pointer (some ⟨bm, 0, none⟩), .pointer (some ⟨cb, 0, none⟩)] w fun e w' => e = .returned (.tuple #[]) /\ Rdr w' base bm A c ts (k + 1) pl nm tm md /\ Turn bm w w' := by
 have hlt : k < ts.length := by
   apply Classical.byContradiction
   intro hn
   rw [List.getD_eq_getElem?_getD, List.getElem?_eq_none (by omega)] at hk
   exact h0 hk.symm
 have hfew := h.few
 have hA := fun W (hb : Below w.heap.size w W) => qdy base bm A c ts k pl nm tm md W (h.later hb)
 rw [X.qdu] at hA
 generalize ts.getD k ⟨0, [], 0⟩ = q at hA hk
 obtain ⟨qk, qt, qn⟩ := q
 dsimp only at hA hk
 have hA' := hid hA
 clear hA
 have hc : w.cell? ⟨cb, 0, none⟩ = some (.string (X.strOf s)) := qaa w cb 0 _ _ _ hs
 have hl : cb < w.heap.size := World.lt_of_get hs
 have h' := hid h
 clear h hs
 have hb0 := hid ((Below.refl w.heap.size w).drew)
 have q0 : w.drew.cell? ⟨cb, 0, none⟩ = some (.string (X.strOf s)) := hc
 have hd : ((X.strOf qt).toList == (X.strOf s).toList) = true := by rw [qah, qah]; simpa using hk
 clear hk
 go_enter Tryz.func184, Tryz.ntmps184
 go_wp2_with fail
 go_region_held3 (fun W => W.cell? ⟨cb, 0, none⟩ = some (.string (X.strOf s))) (exact q0) (first | (go_at_call 162; refine (hA'.out w.drew hb0.out).mono ?_; clear q0; rintro e w9 ⟨rfl, hb9⟩; have q0 : w9.cell? ⟨cb, 0, none⟩ = some (.string (X.strOf s)) := (hb9.cell (p := ⟨cb, 0, none⟩) hl).trans hc; replace hb9 := hid hb9))
 have hR := h'.out.later (hb0.out.trans hb9.out)
 have p1 : w9.cell? ⟨bm, 1, none⟩ = some (.int .i64 k) := qaa _ bm 1 _ _ _ hR.box
 have f1 : w9.frozen? ⟨bm, 1, none⟩ = false := qac hR.box 1
 have hR2 := hid hR
 clear hR q0
 go_wp2_with fail
 have ek : ((k + 1 : Nat) : Int) = (k : Int) + 1 := by omega
 have hR3 := hR2.out.next hlt
 rw [ek] at hR3
 go_end0
 exact ⟨rfl, hR3, (Turn.of_below (hb0.out.trans hb9.out)).trans (Turn.set _ _ _)⟩
end Go.Proofs.YtjnfhebbphdchaaGreatDoor.Pa
namespace Go.Proofs.YtjnfhebbphdchaaGreatDoor.Pa
open Go.RowKit Go.Shelf Go.Tm Go.Lx
attribute [local go_sem] Oper.semAt_some qbT
section
variable [Inhabited PE]
def qef (w : World) : List Obj -> World
 | [] => w
 | o :: l => qef (w.alloc o) l
end
theorem qcH : ∀ (l : List Obj) (w : World), Below w.heap.size w (qef w l)
 | [], w => Below.refl _ _
 | o :: l, w => by
   have h1 := X.qab w o
   exact h1.trans ((qcH l (w.alloc o)).mono h1.size)
theorem qgQ : ∀ (l : List Obj) (w : World), (qef w l).heap.size = w.heap.size + l.length
 | [], w => rfl
 | o :: l, w => by
   show (qef (w.alloc o) l).heap.size = _
   rw [qgQ l, World.size_alloc, List.length_cons]; omega
theorem qhK : ∀ (l : List Obj) (w : World) (i : Nat) (o : Obj), l[i]? = some o -> (qef w l).heap[w.heap.size + i]? = some o
 | [], _, _, _, h => by cases h
 | o :: l, w, 0, _, h => by
   have h1 := World.alloc_heap_new w o
   cases h
   exact ((qcH l (w.alloc o)).block _ (World.lt_of_get h1)).trans h1
 | o :: l, w, i + 1, _, h => by
   have := qhK l (w.alloc o) i _ (by simpa using h)
   rw [World.size_alloc] at this
   rw [show w.heap.size + (i + 1) = w.heap.size + 1 + i by omega]
   exact this
section
variable [Inhabited PE]
def StpL (n : Nat) (l : List Obj) : Stp -> Value -> Prop
 | .word s, v => ∃ i, v = .func (.func 184) #[] #[.pointer (some ⟨n + i, 0, none⟩)] /\ l[i]? = some (.cells #[.string (txB s)] 9 (0, 0))
 | .made k m, v => ∃ i j, v = .func (.func 186) #[] #[.pointer (some ⟨n + i, 0, none⟩), .pointer (some ⟨n + j, 0, none⟩)] /\ l[i]? = some (.cells #[.int .i64 k] 3 (0, 0)) /\ l[j]? = some (.cells #[.int .i64 m] 3 (0, 0))
 | s, v => ∀ W p, StpAt W p s v
def qhL (n : Nat) (l : List Obj) : List Stp -> List Value -> Prop
 | [], [] => True
 | s :: ss, v :: vs => StpL n l s v /\ qhL n l ss vs
 | _, _ => False
end
theorem qbs (ts : List Tok) (k : Nat) : qaf (ts.drop k) = ts.getD k ⟨0, [], 0⟩ := by
 rw [List.getD_eq_getElem?_getD, <- List.head?_drop]
 cases ts.drop k <;> rfl
section
variable [Inhabited PE]
section
variable {w w1 : World} {base bm : Nat} {A : Option Addr} {c : Nat} {ts : List Tok} {σ : PS}
theorem Rep.lt (h : Rep w base bm A c ts σ) : bm < w.heap.size := by
 obtain ⟨k, pl, nm, tm, vs, xs, h⟩ := h
 exact h.lt
theorem StpL.at_ {k : Nat} {pl nm tm : Value} {vs : List Value} {xs : List (Go.Tm.T × Option Addr × Nat)} (h : St w base bm A c ts σ k pl nm tm vs xs) {W : World} {l : List Obj} (hl : ∀ i o, l[i]? = some o -> W.heap[w.heap.size + i]? = some o) {s : Stp} {v : Value} (hs : StpL w.heap.size l s v) : StpAt W (Fix W bm pl nm tm) s v := by
 have hf : ∀ i o, l[i]? = some o -> o.isCells = true -> Fix W bm pl nm tm (w.heap.size + i) := fun i o hi hc =>
   ⟨⟨⟨o, hl i o hi, hc⟩, by have := h.lt; omega, fun e => by have := (h.pAt e).2; omega, fun e => by have := (h.nAt e).2; omega, fun e => by have := (h.tAt e).2; omega⟩, h.free (by omega)⟩
 cases s with
 | word s =>
   obtain ⟨i, h1, h2⟩ := hs
   exact ⟨_, h1, hf i _ h2 rfl, hl i _ h2⟩
 | made k m =>
   obtain ⟨i, j, h1, h2, h3⟩ := hs
   exact ⟨_, _, h1, hf i _ h2 rfl, hf j _ h3 rfl, hl i _ h2, hl j _ h3⟩
 | _ => exact hs W _
theorem qhL.at_ {k : Nat} {pl nm tm : Value} {vs : List Value} {xs : List (Go.Tm.T × Option Addr × Nat)} (h : St w base bm A c ts σ k pl nm tm vs xs) {W : World} {l : List Obj} (hl : ∀ i o, l[i]? = some o -> W.heap[w.heap.size + i]? = some o) : ∀ {ss : List Stp} {us : List Value}, qhL w.heap.size l ss us -> Steps W (Fix W bm pl nm tm) ss us
 | [], [], _ => trivial
 | _ :: _, _ :: _, hs => ⟨StpL.at_ h hl hs.1, qhL.at_ h hl hs.2⟩
 | [], _ :: _, hs => hs.elim
 | _ :: _, [], hs => hs.elim
theorem qaI (h : Rep w base bm A c ts σ) (l : List Obj) (ss : List Stp) (us : List Value) (hs : qhL w.heap.size l ss us) (hl : us.length <= 16) (hp : σ.plan.length <= 1099511627776) (m : Nat) (hm : us.length = m) :
   Calls Tryz.prog 98 #[.pointer (some ⟨bm, 0, none⟩), .slice (some ⟨w.heap.size + l.length, 0, none⟩) m m] ((qef w l).alloc (.cells us.toArray 210)) fun e w' => e = .returned (.tuple #[]) /\ Rep w' base bm A c ts { σ with plan := ss ++ σ.plan } /\ Below bm w w' := by
 obtain ⟨k, pl, nm, tm, vs, xs, h1⟩ := h
 have hB := (qcH l w).trans ((X.qab (qef w l) (.cells us.toArray 210)).mono (qcH l w).size)
 have hn := World.alloc_heap_new (qef w l) (.cells us.toArray 210)
 rw [qgQ] at hn
 have hl2 : ∀ i o, l[i]? = some o -> ((qef w l).alloc (.cells us.toArray 210)).heap[w.heap.size + i]? = some o := fun i o hi => by
   have h2 := qhK l w i o hi
   exact (Below.heap_alloc _ _ _ (World.lt_of_get h2)).trans h2
 have hst := qhL.at_ h1 hl2 hs
 have hf : Fix ((qef w l).alloc (.cells us.toArray 210)) bm pl nm tm (w.heap.size + l.length) :=
   ⟨⟨⟨_, hn, rfl⟩, by have := h1.lt; omega, fun e => by have := (h1.pAt e).2; omega, fun e => by have := (h1.nAt e).2; omega, fun e => by have := (h1.tAt e).2; omega⟩, h1.free (by omega)⟩
 have := qqe base bm A c ts σ k pl nm tm vs xs ss us (w.heap.size + l.length) 0 m _ (h1.later hB) hst hf (fun j hj => by
   rw [Nat.zero_add, qaa _ _ j _ _ _ hn, List.getElem?_toArray, List.getD_eq_getElem?_getD, List.getElem?_eq_getElem hj]; rfl) hl hp
 rw [hm] at this
 exact this.mono fun e w' ⟨h3, h4, h5⟩ => ⟨h3, h4, (hB.mono (Nat.le_of_lt h1.lt)).trans h5⟩
theorem qaz (h : Rep w base bm A c ts σ) : Calls Tryz.prog 162 #[.pointer (some ⟨bm, 0, none⟩)] w fun e w' => e = .returned (.agg #[.int .i64 (qaf σ.rest).kind, .string (X.strOf (qaf σ.rest).text), .int .i64 (qaf σ.rest).num]) /\ Below w.heap.size w w' := by
 obtain ⟨k, pl, nm, tm, vs, xs, h1⟩ := h
 have := qdy base bm A c ts k pl nm tm σ.made w h1.rdr
 rw [<- qbs, <- h1.rest, X.qdu] at this
 exact this
theorem qlK (h : Rep w base bm A c ts σ) (kd : Int) (h0 : kd ≠ 0) (hk : (qaf σ.rest).kind = kd) : Calls Tryz.prog 185 #[.pointer (some ⟨bm, 0, none⟩), .int .i64 kd] w fun e w' => e = .returned (.agg #[.int .i64 (qaf σ.rest).kind, .string (X.strOf (qaf σ.rest).text), .int .i64 (qaf σ.rest).num]) /\ Rep w' base bm A c ts { σ with rest := σ.rest.tail } /\ Below bm w w' := by
 obtain ⟨k, pl, nm, tm, vs, xs, h1⟩ := h
 have := qio base bm A c ts k pl nm tm σ.made kd w h1.rdr h0 (by rw [<- qbs, <- h1.rest]; exact hk)
 rw [<- qbs, <- h1.rest, X.qdu] at this
 exact this.mono fun e w' ⟨h2, h3, h4⟩ => ⟨h2, ⟨k + 1, pl, nm, tm, vs, xs, h1.take h4 h3⟩, h4.below h1.lt⟩
theorem qlL (h : Rep w base bm A c ts σ) (kd : Int) (hk : (qaf σ.rest).kind ≠ kd) : Calls Tryz.prog 185 #[.pointer (some ⟨bm, 0, none⟩), .int .i64 kd] w fun e w' => e = qhH 2 /\ Below w.heap.size w w' := by
 obtain ⟨k, pl, nm, tm, vs, xs, h1⟩ := h
 exact qru base bm A c ts k pl nm tm σ.made kd w h1.rdr (by rw [<- qbs, <- h1.rest]; exact hk)
end
theorem qrR (base bm : Nat) (A : Option Addr) (c : Nat) (ts : List Tok) (σ : PS) (w : World) (h : Rep w base bm A c ts σ) (hp : σ.plan.length <= 1099511627776) :
   Calls Tryz.prog 99 #[.pointer (some ⟨bm, 0, none⟩)] w fun e w' => Res base bm A c ts (stepP σ .seq) e w' /\ Below bm w w' := by
 have kt := hid (qaI h [] [.single, .more] [.func (.func 135) #[] #[], .func (.func 136) #[] #[]] ⟨fun _ _ => rfl, fun _ _ => rfl, trivial⟩ (by simp) hp 2 rfl)
 clear h hp
 go_enter Tryz.func99, Tryz.ntmps99
 go_wp2_with fail
 refine kt.out.mono ?_
 rintro e w2 ⟨rfl, hR, hB⟩
 replace hR := hid hR
 replace hB := hid hB
 go_wp2_with fail
 go_end0
 exact ⟨⟨rfl, hR.out⟩, hB.out⟩
end
end Go.Proofs.YtjnfhebbphdchaaGreatDoor.Pa
namespace Go.Proofs.YtjnfhebbphdchaaGreatDoor.Pa
open Go.RowKit Go.Shelf Go.Tm Go.Lx
attribute [local go_sem] Oper.semAt_some qbT
variable [Inhabited PE]
theorem qqg (base bm : Nat) (A : Option Addr) (c : Nat) (ts : List Tok) (σ : PS) (w : World) (h : Rep w base bm A c ts σ) (hp : σ.plan.length <= 1099511627776) (h0 : (qaf σ.rest).text = [102, 117, 110]) :
   Calls Tryz.prog 135 #[.pointer (some ⟨bm, 0, none⟩)] w fun e w' => (e = .returned (.tuple #[]) /\ Rep w' base bm A c ts { σ with plan := [.word [102, 117, 110], .name, .word [61, 62], .seq, .made 3 1] ++ σ.plan }) /\ Below bm w w' := by
 have ka := qaz h
 have hlt := h.lt
 generalize qaf σ.rest = q at ka h0
 obtain ⟨qk, qt, qn⟩ := q
 dsimp only at ka h0
 have g0 : ((X.strOf qt).toList == [102, 117, 110]) = true := by rw [qah]; simpa using h0
 have kt := hid (fun W (hb : Below w.heap.size w W) => qaI (h.later hb) [.cells #[.string (txB [102, 117, 110])] 9, .cells #[.string (txB [61, 62])] 9, .cells #[.int .i64 3] 3, .cells #[.int .i64 1] 3] [.word [102, 117, 110], .name, .word [61, 62], .seq, .made 3 1] [.func (.func 184) #[] #[.pointer (some ⟨W.heap.size + 0, 0, none⟩)], .func (.func 164) #[] #[], .func (.func 184) #[] #[.pointer (some ⟨W.heap.size + 1, 0, none⟩)], .func (.func 99) #[] #[], .func (.func 186) #[] #[.pointer (some ⟨W.heap.size + 2, 0, none⟩), .pointer (some ⟨W.heap.size + 3, 0, none⟩)]] ⟨⟨0, rfl, rfl⟩, fun _ _ => rfl, ⟨1, rfl, rfl⟩, fun _ _ => rfl, ⟨2, 3, rfl, rfl, rfl⟩, trivial⟩ (by simp) hp 5 rfl)
 replace ka := hid ka
 clear h hp h0
 go_enter Tryz.func135, Tryz.ntmps135
 go_wp2_with fail
 refine ka.out.mono ?_
 rintro e w1 ⟨rfl, hb1⟩
 have kt1 := hid (kt.out w1 hb1)
 have hb1' := hid (hb1.mono (Nat.le_of_lt hlt))
 clear hb1 kt
 go_wp2_with (first | (go_at_call 163; refine (qbp _ _).mono ?_; rintro e w9 ⟨rfl, rfl⟩) | (go_at_call 165; refine (qbq _ _ _).mono ?_; rintro e w9 ⟨rfl, rfl⟩))
 refine kt1.out.mono ?_
 rintro e w2 ⟨rfl, hR, hB⟩
 have hR' := hid hR
 have hB' := hid (hb1'.out.trans hB)
 clear hR hB
 go_wp2_with fail
 go_end0
 exact ⟨⟨rfl, hR'.out⟩, hB'.out⟩
theorem qqh (base bm : Nat) (A : Option Addr) (c : Nat) (ts : List Tok) (σ : PS) (w : World) (h : Rep w base bm A c ts σ) (hp : σ.plan.length <= 1099511627776) (h0 : (qaf σ.rest).text ≠ [102, 117, 110]) (h1 : (qaf σ.rest).text = [108, 101, 116]) :
   Calls Tryz.prog 135 #[.pointer (some ⟨bm, 0, none⟩)] w fun e w' => (e = .returned (.tuple #[]) /\ Rep w' base bm A c ts { σ with plan := [.word [108, 101, 116], .name, .word [61], .seq, .word [105, 110], .seq, .made 5 2] ++ σ.plan }) /\ Below bm w w' := by
 have ka := qaz h
 have hlt := h.lt
 generalize qaf σ.rest = q at ka h0 h1
 obtain ⟨qk, qt, qn⟩ := q
 dsimp only at ka h0 h1
 have g0 : ((X.strOf qt).toList == [102, 117, 110]) = false := by rw [qah]; simpa using h0
 have g1 : ((X.strOf qt).toList == [108, 101, 116]) = true := by rw [qah]; simpa using h1
 have kt := hid (fun W (hb : Below w.heap.size w W) => qaI (h.later hb) [.cells #[.string (txB [108, 101, 116])] 9, .cells #[.string (txB [61])] 9, .cells #[.string (txB [105, 110])] 9, .cells #[.int .i64 5] 3, .cells #[.int .i64 2] 3] [.word [108, 101, 116], .name, .word [61], .seq, .word [105, 110], .seq, .made 5 2] [.func (.func 184) #[] #[.pointer (some ⟨W.heap.size + 0, 0, none⟩)], .func (.func 164) #[] #[], .func (.func 184) #[] #[.pointer (some ⟨W.heap.size + 1, 0, none⟩)], .func (.func 99) #[] #[], .func (.func 184) #[] #[.pointer (some ⟨W.heap.size + 2, 0, none⟩)], .func (.func 99) #[] #[], .func (.func 186) #[] #[.pointer (some ⟨W.heap.size + 3, 0, none⟩), .pointer (some ⟨W.heap.size + 4, 0, none⟩)]] ⟨⟨0, rfl, rfl⟩, fun _ _ => rfl, ⟨1, rfl, rfl⟩, fun _ _ => rfl, ⟨2, rfl, rfl⟩, fun _ _ => rfl, ⟨3, 4, rfl, rfl, rfl⟩, trivial⟩ (by simp) hp 7 rfl)
 replace ka := hid ka
 clear h hp h0 h1
 go_enter Tryz.func135, Tryz.ntmps135
 go_wp2_with fail
 refine ka.out.mono ?_
 rintro e w1 ⟨rfl, hb1⟩
 have kt1 := hid (kt.out w1 hb1)
 have hb1' := hid (hb1.mono (Nat.le_of_lt hlt))
 clear hb1 kt
 go_wp2_with (first | (go_at_call 163; refine (qbp _ _).mono ?_; rintro e w9 ⟨rfl, rfl⟩) | (go_at_call 165; refine (qbq _ _ _).mono ?_; rintro e w9 ⟨rfl, rfl⟩))
 refine kt1.out.mono ?_
 rintro e w2 ⟨rfl, hR, hB⟩
 have hR' := hid hR
 have hB' := hid (hb1'.out.trans hB)
 clear hR hB
 go_wp2_with fail
 go_end0
 exact ⟨⟨rfl, hR'.out⟩, hB'.out⟩
theorem qqi (base bm : Nat) (A : Option Addr) (c : Nat) (ts : List Tok) (σ : PS) (w : World) (h : Rep w base bm A c ts σ) (hp : σ.plan.length <= 1099511627776) (h0 : (qaf σ.rest).text ≠ [102, 117, 110]) (h1 : (qaf σ.rest).text ≠ [108, 101, 116]) (h2 : (qaf σ.rest).text = [105, 102]) :
   Calls Tryz.prog 135 #[.pointer (some ⟨bm, 0, none⟩)] w fun e w' => (e = .returned (.tuple #[]) /\ Rep w' base bm A c ts { σ with plan := [.word [105, 102], .seq, .word [116, 104, 101, 110], .seq, .word [101, 108, 115, 101], .seq, .made 6 3] ++ σ.plan }) /\ Below bm w w' := by
 have ka := qaz h
 have hlt := h.lt
 generalize qaf σ.rest = q at ka h0 h1 h2
 obtain ⟨qk, qt, qn⟩ := q
 dsimp only at ka h0 h1 h2
 have g0 : ((X.strOf qt).toList == [102, 117, 110]) = false := by rw [qah]; simpa using h0
 have g1 : ((X.strOf qt).toList == [108, 101, 116]) = false := by rw [qah]; simpa using h1
 have g2 : ((X.strOf qt).toList == [105, 102]) = true := by rw [qah]; simpa using h2
 have kt := hid (fun W (hb : Below w.heap.size w W) => qaI (h.later hb) [.cells #[.string (txB [105, 102])] 9, .cells #[.string (txB [116, 104, 101, 110])] 9, .cells #[.string (txB [101, 108, 115, 101])] 9, .cells #[.int .i64 6] 3, .cells #[.int .i64 3] 3] [.word [105, 102], .seq, .word [116, 104, 101, 110], .seq, .word [101, 108, 115, 101], .seq, .made 6 3] [.func (.func 184) #[] #[.pointer (some ⟨W.heap.size + 0, 0, none⟩)], .func (.func 99) #[] #[], .func (.func 184) #[] #[.pointer (some ⟨W.heap.size + 1, 0, none⟩)], .func (.func 99) #[] #[], .func (.func 184) #[] #[.pointer (some ⟨W.heap.size + 2, 0, none⟩)], .func (.func 99) #[] #[], .func (.func 186) #[] #[.pointer (some ⟨W.heap.size + 3, 0, none⟩), .pointer (some ⟨W.heap.size + 4, 0, none⟩)]] ⟨⟨0, rfl, rfl⟩, fun _ _ => rfl, ⟨1, rfl, rfl⟩, fun _ _ => rfl, ⟨2, rfl, rfl⟩, fun _ _ => rfl, ⟨3, 4, rfl, rfl, rfl⟩, trivial⟩ (by simp) hp 7 rfl)
 replace ka := hid ka
 clear h hp h0 h1 h2
 go_enter Tryz.func135, Tryz.ntmps135
 go_wp2_with fail
 refine ka.out.mono ?_
 rintro e w1 ⟨rfl, hb1⟩
 have kt1 := hid (kt.out w1 hb1)
 have hb1' := hid (hb1.mono (Nat.le_of_lt hlt))
 clear hb1 kt
 go_wp2_with (first | (go_at_call 163; refine (qbp _ _).mono ?_; rintro e w9 ⟨rfl, rfl⟩) | (go_at_call 165; refine (qbq _ _ _).mono ?_; rintro e w9 ⟨rfl, rfl⟩))
 refine kt1.out.mono ?_
 rintro e w2 ⟨rfl, hR, hB⟩
 have hR' := hid hR
 have hB' := hid (hb1'.out.trans hB)
 clear hR hB
 go_wp2_with fail
 go_end0
 exact ⟨⟨rfl, hR'.out⟩, hB'.out⟩
theorem qqj (base bm : Nat) (A : Option Addr) (c : Nat) (ts : List Tok) (σ : PS) (w : World) (h : Rep w base bm A c ts σ) (hp : σ.plan.length <= 1099511627776) (h0 : (qaf σ.rest).text ≠ [102, 117, 110]) (h1 : (qaf σ.rest).text ≠ [108, 101, 116]) (h2 : (qaf σ.rest).text ≠ [105, 102]) (h3 : (qaf σ.rest).text = [119, 104, 105, 108, 101]) :
   Calls Tryz.prog 135 #[.pointer (some ⟨bm, 0, none⟩)] w fun e w' => (e = .returned (.tuple #[]) /\ Rep w' base bm A c ts { σ with plan := [.word [119, 104, 105, 108, 101], .seq, .word [100, 111], .seq, .made 7 2] ++ σ.plan }) /\ Below bm w w' := by
 have ka := qaz h
 have hlt := h.lt
 generalize qaf σ.rest = q at ka h0 h1 h2 h3
 obtain ⟨qk, qt, qn⟩ := q
 dsimp only at ka h0 h1 h2 h3
 have g0 : ((X.strOf qt).toList == [102, 117, 110]) = false := by rw [qah]; simpa using h0
 have g1 : ((X.strOf qt).toList == [108, 101, 116]) = false := by rw [qah]; simpa using h1
 have g2 : ((X.strOf qt).toList == [105, 102]) = false := by rw [qah]; simpa using h2
 have g3 : ((X.strOf qt).toList == [119, 104, 105, 108, 101]) = true := by rw [qah]; simpa using h3
 have kt := hid (fun W (hb : Below w.heap.size w W) => qaI (h.later hb) [.cells #[.string (txB [119, 104, 105, 108, 101])] 9, .cells #[.string (txB [100, 111])] 9, .cells #[.int .i64 7] 3, .cells #[.int .i64 2] 3] [.word [119, 104, 105, 108, 101], .seq, .word [100, 111], .seq, .made 7 2] [.func (.func 184) #[] #[.pointer (some ⟨W.heap.size + 0, 0, none⟩)], .func (.func 99) #[] #[], .func (.func 184) #[] #[.pointer (some ⟨W.heap.size + 1, 0, none⟩)], .func (.func 99) #[] #[], .func (.func 186) #[] #[.pointer (some ⟨W.heap.size + 2, 0, none⟩), .pointer (some ⟨W.heap.size + 3, 0, none⟩)]] ⟨⟨0, rfl, rfl⟩, fun _ _ => rfl, ⟨1, rfl, rfl⟩, fun _ _ => rfl, ⟨2, 3, rfl, rfl, rfl⟩, trivial⟩ (by simp) hp 5 rfl)
 replace ka := hid ka
 clear h hp h0 h1 h2 h3
 go_enter Tryz.func135, Tryz.ntmps135
 go_wp2_with fail
 refine ka.out.mono ?_
 rintro e w1 ⟨rfl, hb1⟩
 have kt1 := hid (kt.out w1 hb1)
 have hb1' := hid (hb1.mono (Nat.le_of_lt hlt))
 clear hb1 kt
 go_wp2_with (first | (go_at_call 163; refine (qbp _ _).mono ?_; rintro e w9 ⟨rfl, rfl⟩) | (go_at_call 165; refine (qbq _ _ _).mono ?_; rintro e w9 ⟨rfl, rfl⟩))
 refine kt1.out.mono ?_
 rintro e w2 ⟨rfl, hR, hB⟩
 have hR' := hid hR
 have hB' := hid (hb1'.out.trans hB)
 clear hR hB
 go_wp2_with fail
 go_end0
 exact ⟨⟨rfl, hR'.out⟩, hB'.out⟩
theorem qqk (base bm : Nat) (A : Option Addr) (c : Nat) (ts : List Tok) (σ : PS) (w : World) (h : Rep w base bm A c ts σ) (hp : σ.plan.length <= 1099511627776) (h0 : (qaf σ.rest).text ≠ [102, 117, 110]) (h1 : (qaf σ.rest).text ≠ [108, 101, 116]) (h2 : (qaf σ.rest).text ≠ [105, 102]) (h3 : (qaf σ.rest).text ≠ [119, 104, 105, 108, 101]) (h4 : (qaf σ.rest).text = [114, 97, 105, 115, 101]) :
   Calls Tryz.prog 135 #[.pointer (some ⟨bm, 0, none⟩)] w fun e w' => (e = .returned (.tuple #[]) /\ Rep w' base bm A c ts { σ with plan := [.word [114, 97, 105, 115, 101], .single, .made 8 1] ++ σ.plan }) /\ Below bm w w' := by
 have ka := qaz h
 have hlt := h.lt
 generalize qaf σ.rest = q at ka h0 h1 h2 h3 h4
 obtain ⟨qk, qt, qn⟩ := q
 dsimp only at ka h0 h1 h2 h3 h4
 have g0 : ((X.strOf qt).toList == [102, 117, 110]) = false := by rw [qah]; simpa using h0
 have g1 : ((X.strOf qt).toList == [108, 101, 116]) = false := by rw [qah]; simpa using h1
 have g2 : ((X.strOf qt).toList == [105, 102]) = false := by rw [qah]; simpa using h2
 have g3 : ((X.strOf qt).toList == [119, 104, 105, 108, 101]) = false := by rw [qah]; simpa using h3
 have g4 : ((X.strOf qt).toList == [114, 97, 105, 115, 101]) = true := by rw [qah]; simpa using h4
 have kt := hid (fun W (hb : Below w.heap.size w W) => qaI (h.later hb) [.cells #[.string (txB [114, 97, 105, 115, 101])] 9, .cells #[.int .i64 8] 3, .cells #[.int .i64 1] 3] [.word [114, 97, 105, 115, 101], .single, .made 8 1] [.func (.func 184) #[] #[.pointer (some ⟨W.heap.size + 0, 0, none⟩)], .func (.func 135) #[] #[], .func (.func 186) #[] #[.pointer (some ⟨W.heap.size + 1, 0, none⟩), .pointer (some ⟨W.heap.size + 2, 0, none⟩)]] ⟨⟨0, rfl, rfl⟩, fun _ _ => rfl, ⟨1, 2, rfl, rfl, rfl⟩, trivial⟩ (by simp) hp 3 rfl)
 replace ka := hid ka
 clear h hp h0 h1 h2 h3 h4
 go_enter Tryz.func135, Tryz.ntmps135
 go_wp2_with fail
 refine ka.out.mono ?_
 rintro e w1 ⟨rfl, hb1⟩
 have kt1 := hid (kt.out w1 hb1)
 have hb1' := hid (hb1.mono (Nat.le_of_lt hlt))
 clear hb1 kt
 go_wp2_with (first | (go_at_call 163; refine (qbp _ _).mono ?_; rintro e w9 ⟨rfl, rfl⟩) | (go_at_call 165; refine (qbq _ _ _).mono ?_; rintro e w9 ⟨rfl, rfl⟩))
 refine kt1.out.mono ?_
 rintro e w2 ⟨rfl, hR, hB⟩
 have hR' := hid hR
 have hB' := hid (hb1'.out.trans hB)
 clear hR hB
 go_wp2_with fail
 go_end0
 exact ⟨⟨rfl, hR'.out⟩, hB'.out⟩
theorem qql (base bm : Nat) (A : Option Addr) (c : Nat) (ts : List Tok) (σ : PS) (w : World) (h : Rep w base bm A c ts σ) (hp : σ.plan.length <= 1099511627776) (h0 : (qaf σ.rest).text ≠ [102, 117, 110]) (h1 : (qaf σ.rest).text ≠ [108, 101, 116]) (h2 : (qaf σ.rest).text ≠ [105, 102]) (h3 : (qaf σ.rest).text ≠ [119, 104, 105, 108, 101]) (h4 : (qaf σ.rest).text ≠ [114, 97, 105, 115, 101]) (h5 : (qaf σ.rest).text = [116, 114, 121]) :
   Calls Tryz.prog 135 #[.pointer (some ⟨bm, 0, none⟩)] w fun e w' => (e = .returned (.tuple #[]) /\ Rep w' base bm A c ts { σ with plan := [.word [116, 114, 121], .seq, .word [119, 105, 116, 104], .name, .word [61, 62], .seq, .made 9 2] ++ σ.plan }) /\ Below bm w w' := by
 have ka := qaz h
 have hlt := h.lt
 generalize qaf σ.rest = q at ka h0 h1 h2 h3 h4 h5
 obtain ⟨qk, qt, qn⟩ := q
 dsimp only at ka h0 h1 h2 h3 h4 h5
 have g0 : ((X.strOf qt).toList == [102, 117, 110]) = false := by rw [qah]; simpa using h0
 have g1 : ((X.strOf qt).toList == [108, 101, 116]) = false := by rw [qah]; simpa using h1
 have g2 : ((X.strOf qt).toList == [105, 102]) = false := by rw [qah]; simpa using h2
 have g3 : ((X.strOf qt).toList == [119, 104, 105, 108, 101]) = false := by rw [qah]; simpa using h3
 have g4 : ((X.strOf qt).toList == [114, 97, 105, 115, 101]) = false := by rw [qah]; simpa using h4
 have g5 : ((X.strOf qt).toList == [116, 114, 121]) = true := by rw [qah]; simpa using h5
 have kt := hid (fun W (hb : Below w.heap.size w W) => qaI (h.later hb) [.cells #[.string (txB [116, 114, 121])] 9, .cells #[.string (txB [119, 105, 116, 104])] 9, .cells #[.string (txB [61, 62])] 9, .cells #[.int .i64 9] 3, .cells #[.int .i64 2] 3] [.word [116, 114, 121], .seq, .word [119, 105, 116, 104], .name, .word [61, 62], .seq, .made 9 2] [.func (.func 184) #[] #[.pointer (some ⟨W.heap.size + 0, 0, none⟩)], .func (.func 99) #[] #[], .func (.func 184) #[] #[.pointer (some ⟨W.heap.size + 1, 0, none⟩)], .func (.func 164) #[] #[], .func (.func 184) #[] #[.pointer (some ⟨W.heap.size + 2, 0, none⟩)], .func (.func 99) #[] #[], .func (.func 186) #[] #[.pointer (some ⟨W.heap.size + 3, 0, none⟩), .pointer (some ⟨W.heap.size + 4, 0, none⟩)]] ⟨⟨0, rfl, rfl⟩, fun _ _ => rfl, ⟨1, rfl, rfl⟩, fun _ _ => rfl, ⟨2, rfl, rfl⟩, fun _ _ => rfl, ⟨3, 4, rfl, rfl, rfl⟩, trivial⟩ (by simp) hp 7 rfl)
 replace ka := hid ka
 clear h hp h0 h1 h2 h3 h4 h5
 go_enter Tryz.func135, Tryz.ntmps135
 go_wp2_with fail
 refine ka.out.mono ?_
 rintro e w1 ⟨rfl, hb1⟩
 have kt1 := hid (kt.out w1 hb1)
 have hb1' := hid (hb1.mono (Nat.le_of_lt hlt))
 clear hb1 kt
 go_wp2_with (first | (go_at_call 163; refine (qbp _ _).mono ?_; rintro e w9 ⟨rfl, rfl⟩) | (go_at_call 165; refine (qbq _ _ _).mono ?_; rintro e w9 ⟨rfl, rfl⟩))
 refine kt1.out.mono ?_
 rintro e w2 ⟨rfl, hR, hB⟩
 have hR' := hid hR
 have hB' := hid (hb1'.out.trans hB)
 clear hR hB
 go_wp2_with fail
 go_end0
 exact ⟨⟨rfl, hR'.out⟩, hB'.out⟩
theorem qqm (base bm : Nat) (A : Option Addr) (c : Nat) (ts : List Tok) (σ : PS) (w : World) (h : Rep w base bm A c ts σ) (hp : σ.plan.length <= 1099511627776) (h0 : (qaf σ.rest).text ≠ [102, 117, 110]) (h1 : (qaf σ.rest).text ≠ [108, 101, 116]) (h2 : (qaf σ.rest).text ≠ [105, 102]) (h3 : (qaf σ.rest).text ≠ [119, 104, 105, 108, 101]) (h4 : (qaf σ.rest).text ≠ [114, 97, 105, 115, 101]) (h5 : (qaf σ.rest).text ≠ [116, 114, 121]) :
   Calls Tryz.prog 135 #[.pointer (some ⟨bm, 0, none⟩)] w fun e w' => (e = .returned (.tuple #[]) /\ Rep w' base bm A c ts { σ with plan := [.appl, .oper] ++ σ.plan }) /\ Below bm w w' := by
 have ka := qaz h
 have hlt := h.lt
 generalize qaf σ.rest = q at ka h0 h1 h2 h3 h4 h5
 obtain ⟨qk, qt, qn⟩ := q
 dsimp only at ka h0 h1 h2 h3 h4 h5
 have g0 : ((X.strOf qt).toList == [102, 117, 110]) = false := by rw [qah]; simpa using h0
 have g1 : ((X.strOf qt).toList == [108, 101, 116]) = false := by rw [qah]; simpa using h1
 have g2 : ((X.strOf qt).toList == [105, 102]) = false := by rw [qah]; simpa using h2
 have g3 : ((X.strOf qt).toList == [119, 104, 105, 108, 101]) = false := by rw [qah]; simpa using h3
 have g4 : ((X.strOf qt).toList == [114, 97, 105, 115, 101]) = false := by rw [qah]; simpa using h4
 have g5 : ((X.strOf qt).toList == [116, 114, 121]) = false := by rw [qah]; simpa using h5
 have kt := hid (fun W (hb : Below w.heap.size w W) => qaI (h.later hb) [] [.appl, .oper] [.func (.func 166) #[] #[], .func (.func 167) #[] #[]] ⟨fun _ _ => rfl, fun _ _ => rfl, trivial⟩ (by simp) hp 2 rfl)
 replace ka := hid ka
 clear h hp h0 h1 h2 h3 h4 h5
 go_enter Tryz.func135, Tryz.ntmps135
 go_wp2_with fail
 refine ka.out.mono ?_
 rintro e w1 ⟨rfl, hb1⟩
 have kt1 := hid (kt.out w1 hb1)
 have hb1' := hid (hb1.mono (Nat.le_of_lt hlt))
 clear hb1 kt
 go_wp2_with (first | (go_at_call 163; refine (qbp _ _).mono ?_; rintro e w9 ⟨rfl, rfl⟩) | (go_at_call 165; refine (qbq _ _ _).mono ?_; rintro e w9 ⟨rfl, rfl⟩))
 refine kt1.out.mono ?_
 rintro e w2 ⟨rfl, hR, hB⟩
 have hR' := hid hR
 have hB' := hid (hb1'.out.trans hB)
 clear hR hB
 go_wp2_with fail
 go_end0
 exact ⟨⟨rfl, hR'.out⟩, hB'.out⟩
theorem qmN (base bm : Nat) (A : Option Addr) (c : Nat) (ts : List Tok) (σ : PS) (w : World) (h : Rep w base bm A c ts σ) (hp : σ.plan.length <= 1099511627776) :
   Calls Tryz.prog 135 #[.pointer (some ⟨bm, 0, none⟩)] w fun e w' => Res base bm A c ts (stepP σ .single) e w' /\ Below bm w w' := by
 rw [qkw]
 unfold qbz
 by_cases n0 : (qaf σ.rest).text = [102, 117, 110]
 . simp only [if_pos n0]
   exact (qqg base bm A c ts σ w h hp n0).mono fun e w' hq => hq
 by_cases n1 : (qaf σ.rest).text = [108, 101, 116]
 . simp only [if_neg n0, if_pos n1]
   exact (qqh base bm A c ts σ w h hp n0 n1).mono fun e w' hq => hq
 by_cases n2 : (qaf σ.rest).text = [105, 102]
 . simp only [if_neg n0, if_neg n1, if_pos n2]
   exact (qqi base bm A c ts σ w h hp n0 n1 n2).mono fun e w' hq => hq
 by_cases n3 : (qaf σ.rest).text = [119, 104, 105, 108, 101]
 . simp only [if_neg n0, if_neg n1, if_neg n2, if_pos n3]
   exact (qqj base bm A c ts σ w h hp n0 n1 n2 n3).mono fun e w' hq => hq
 by_cases n4 : (qaf σ.rest).text = [114, 97, 105, 115, 101]
 . simp only [if_neg n0, if_neg n1, if_neg n2, if_neg n3, if_pos n4]
   exact (qqk base bm A c ts σ w h hp n0 n1 n2 n3 n4).mono fun e w' hq => hq
 by_cases n5 : (qaf σ.rest).text = [116, 114, 121]
 . simp only [if_neg n0, if_neg n1, if_neg n2, if_neg n3, if_neg n4, if_pos n5]
   exact (qql base bm A c ts σ w h hp n0 n1 n2 n3 n4 n5).mono fun e w' hq => hq
 simp only [if_neg n0, if_neg n1, if_neg n2, if_neg n3, if_neg n4, if_neg n5]
 exact (qqm base bm A c ts σ w h hp n0 n1 n2 n3 n4 n5).mono fun e w' hq => hq
end Go.Proofs.YtjnfhebbphdchaaGreatDoor.Pa
namespace Go.Proofs.YtjnfhebbphdchaaGreatDoor.Pa
open Go.RowKit Go.Shelf Go.Tm Go.Lx
attribute [local go_sem] Oper.semAt_some qbT
variable [Inhabited PE]
theorem qqn (base bm : Nat) (A : Option Addr) (c : Nat) (ts : List Tok) (σ : PS) (w : World) (h : Rep w base bm A c ts σ) (hp : σ.plan.length <= 1099511627776) (h0 : (qaf σ.rest).text = [59]) :
   Calls Tryz.prog 136 #[.pointer (some ⟨bm, 0, none⟩)] w fun e w' => (e = .returned (.tuple #[]) /\ Rep w' base bm A c ts { σ with plan := [.word [59], .seq, .made 13 2] ++ σ.plan }) /\ Below bm w w' := by
 have ka := qaz h
 have hlt := h.lt
 generalize qaf σ.rest = q at ka h0
 obtain ⟨qk, qt, qn⟩ := q
 dsimp only at ka h0
 have g0 : ((X.strOf qt).toList == [59]) = true := by rw [qah]; simpa using h0
 have kt := hid (fun W (hb : Below w.heap.size w W) => qaI (h.later hb) [.cells #[.string (txB [59])] 9, .cells #[.int .i64 13] 3, .cells #[.int .i64 2] 3] [.word [59], .seq, .made 13 2] [.func (.func 184) #[] #[.pointer (some ⟨W.heap.size + 0, 0, none⟩)], .func (.func 99) #[] #[], .func (.func 186) #[] #[.pointer (some ⟨W.heap.size + 1, 0, none⟩), .pointer (some ⟨W.heap.size + 2, 0, none⟩)]] ⟨⟨0, rfl, rfl⟩, fun _ _ => rfl, ⟨1, 2, rfl, rfl, rfl⟩, trivial⟩ (by simp) hp 3 rfl)
 replace ka := hid ka
 clear h hp h0
 go_enter Tryz.func136, Tryz.ntmps136
 go_wp2_with fail
 refine ka.out.mono ?_
 rintro e w1 ⟨rfl, hb1⟩
 have kt1 := hid (kt.out w1 hb1)
 have hb1' := hid (hb1.mono (Nat.le_of_lt hlt))
 clear hb1 kt
 go_wp2_with (first | (go_at_call 163; refine (qbp _ _).mono ?_; rintro e w9 ⟨rfl, rfl⟩) | (go_at_call 165; refine (qbq _ _ _).mono ?_; rintro e w9 ⟨rfl, rfl⟩))
 refine kt1.out.mono ?_
 rintro e w2 ⟨rfl, hR, hB⟩
 have hR' := hid hR
 have hB' := hid (hb1'.out.trans hB)
 clear hR hB
 go_wp2_with fail
 go_end0
 exact ⟨⟨rfl, hR'.out⟩, hB'.out⟩
theorem qrS (base bm : Nat) (A : Option Addr) (c : Nat) (ts : List Tok) (σ : PS) (w : World) (h : Rep w base bm A c ts σ) (_hp : σ.plan.length <= 1099511627776) (h0 : (qaf σ.rest).text ≠ [59]) :
   Calls Tryz.prog 136 #[.pointer (some ⟨bm, 0, none⟩)] w fun e w' => (e = .returned (.tuple #[]) /\ Rep w' base bm A c ts σ) /\ Below bm w w' := by
 have ka := qaz h
 have hlt := h.lt
 generalize qaf σ.rest = q at ka h0
 obtain ⟨qk, qt, qn⟩ := q
 dsimp only at ka h0
 have g0 : ((X.strOf qt).toList == [59]) = false := by rw [qah]; simpa using h0
 have kt := hid (fun W (hb : Below w.heap.size w W) => h.later hb)
 replace ka := hid ka
 clear h _hp h0
 go_enter Tryz.func136, Tryz.ntmps136
 go_wp2_with fail
 refine ka.out.mono ?_
 rintro e w1 ⟨rfl, hb1⟩
 have hR' := hid (kt.out w1 hb1)
 have hB' := hid (hb1.mono (Nat.le_of_lt hlt))
 clear hb1 kt
 go_wp2_with fail
 go_end0
 exact ⟨⟨rfl, hR'.out⟩, hB'.out⟩
theorem qqo (base bm : Nat) (A : Option Addr) (c : Nat) (ts : List Tok) (σ : PS) (w : World) (h : Rep w base bm A c ts σ) (hp : σ.plan.length <= 1099511627776) :
   Calls Tryz.prog 136 #[.pointer (some ⟨bm, 0, none⟩)] w fun e w' => Res base bm A c ts (stepP σ .more) e w' /\ Below bm w w' := by
 rw [stepP]
 by_cases n0 : (qaf σ.rest).text = [59]
 . rw [if_pos n0]
   exact (qqn base bm A c ts σ w h hp n0).mono fun e w' hq => hq
 . rw [if_neg n0]
   exact (qrS base bm A c ts σ w h hp n0).mono fun e w' hq => hq
theorem qqp (base bm : Nat) (A : Option Addr) (c : Nat) (ts : List Tok) (σ : PS) (w : World) (h : Rep w base bm A c ts σ) (hp : σ.plan.length <= 1099511627776) (h0 : (qaf σ.rest).text = [58, 61]) :
   Calls Tryz.prog 167 #[.pointer (some ⟨bm, 0, none⟩)] w fun e w' => (e = .returned (.tuple #[]) /\ Rep w' base bm A c ts { σ with plan := [.word [58, 61], .single, .made 11 2] ++ σ.plan }) /\ Below bm w w' := by
 have ka := qaz h
 have hlt := h.lt
 generalize qaf σ.rest = q at ka h0
 obtain ⟨qk, qt, qn⟩ := q
 dsimp only at ka h0
 have g0 : ((X.strOf qt).toList == [58, 61]) = true := by rw [qah]; simpa using h0
 have kt := hid (fun W (hb : Below w.heap.size w W) => qaI (h.later hb) [.cells #[.string (txB [58, 61])] 9, .cells #[.int .i64 11] 3, .cells #[.int .i64 2] 3] [.word [58, 61], .single, .made 11 2] [.func (.func 184) #[] #[.pointer (some ⟨W.heap.size + 0, 0, none⟩)], .func (.func 135) #[] #[], .func (.func 186) #[] #[.pointer (some ⟨W.heap.size + 1, 0, none⟩), .pointer (some ⟨W.heap.size + 2, 0, none⟩)]] ⟨⟨0, rfl, rfl⟩, fun _ _ => rfl, ⟨1, 2, rfl, rfl, rfl⟩, trivial⟩ (by simp) hp 3 rfl)
 replace ka := hid ka
 clear h hp h0
 go_enter Tryz.func167, Tryz.ntmps167
 go_wp2_with fail
 refine ka.out.mono ?_
 rintro e w1 ⟨rfl, hb1⟩
 have kt1 := hid (kt.out w1 hb1)
 have hb1' := hid (hb1.mono (Nat.le_of_lt hlt))
 clear hb1 kt
 go_wp2_with (first | (go_at_call 163; refine (qbp _ _).mono ?_; rintro e w9 ⟨rfl, rfl⟩) | (go_at_call 165; refine (qbq _ _ _).mono ?_; rintro e w9 ⟨rfl, rfl⟩))
 refine kt1.out.mono ?_
 rintro e w2 ⟨rfl, hR, hB⟩
 have hR' := hid hR
 have hB' := hid (hb1'.out.trans hB)
 clear hR hB
 go_wp2_with fail
 go_end0
 exact ⟨⟨rfl, hR'.out⟩, hB'.out⟩
theorem qsI (base bm : Nat) (A : Option Addr) (c : Nat) (ts : List Tok) (σ : PS) (w : World) (h : Rep w base bm A c ts σ) (hp : σ.plan.length <= 1099511627776) (h0 : (qaf σ.rest).text ≠ [58, 61]) (h1 : (qaf σ.rest).text = [43]) :
   Calls Tryz.prog 167 #[.pointer (some ⟨bm, 0, none⟩)] w fun e w' => (e = .returned (.tuple #[]) /\ Rep w' base bm A c ts { σ with plan := [.operator, .appl, .made 12 2] ++ σ.plan }) /\ Below bm w w' := by
 have ka := qaz h
 have hlt := h.lt
 generalize qaf σ.rest = q at ka h0 h1
 obtain ⟨qk, qt, qn⟩ := q
 dsimp only at ka h0 h1
 have g0 : ((X.strOf qt).toList == [58, 61]) = false := by rw [qah]; simpa using h0
 have g1 : ((X.strOf qt).toList == [43]) = true := by rw [qah]; simpa using h1
 have kt := hid (fun W (hb : Below w.heap.size w W) => qaI (h.later hb) [.cells #[.int .i64 12] 3, .cells #[.int .i64 2] 3] [.operator, .appl, .made 12 2] [.func (.func 190) #[] #[], .func (.func 166) #[] #[], .func (.func 186) #[] #[.pointer (some ⟨W.heap.size + 0, 0, none⟩), .pointer (some ⟨W.heap.size + 1, 0, none⟩)]] ⟨fun _ _ => rfl, fun _ _ => rfl, ⟨0, 1, rfl, rfl, rfl⟩, trivial⟩ (by simp) hp 3 rfl)
 replace ka := hid ka
 clear h hp h0 h1
 go_enter Tryz.func167, Tryz.ntmps167
 go_wp2_with fail
 refine ka.out.mono ?_
 rintro e w1 ⟨rfl, hb1⟩
 have kt1 := hid (kt.out w1 hb1)
 have hb1' := hid (hb1.mono (Nat.le_of_lt hlt))
 clear hb1 kt
 go_wp2_with (first | (go_at_call 163; refine (qbp _ _).mono ?_; rintro e w9 ⟨rfl, rfl⟩) | (go_at_call 165; refine (qbq _ _ _).mono ?_; rintro e w9 ⟨rfl, rfl⟩))
 refine kt1.out.mono ?_
 rintro e w2 ⟨rfl, hR, hB⟩
 have hR' := hid hR
 have hB' := hid (hb1'.out.trans hB)
 clear hR hB
 go_wp2_with fail
 go_end0
 exact ⟨⟨rfl, hR'.out⟩, hB'.out⟩
theorem qsJ (base bm : Nat) (A : Option Addr) (c : Nat) (ts : List Tok) (σ : PS) (w : World) (h : Rep w base bm A c ts σ) (hp : σ.plan.length <= 1099511627776) (h0 : (qaf σ.rest).text ≠ [58, 61]) (h1 : (qaf σ.rest).text ≠ [43]) (h2 : (qaf σ.rest).text = [45]) :
   Calls Tryz.prog 167 #[.pointer (some ⟨bm, 0, none⟩)] w fun e w' => (e = .returned (.tuple #[]) /\ Rep w' base bm A c ts { σ with plan := [.operator, .appl, .made 12 2] ++ σ.plan }) /\ Below bm w w' := by
 have ka := qaz h
 have hlt := h.lt
 generalize qaf σ.rest = q at ka h0 h1 h2
 obtain ⟨qk, qt, qn⟩ := q
 dsimp only at ka h0 h1 h2
 have g0 : ((X.strOf qt).toList == [58, 61]) = false := by rw [qah]; simpa using h0
 have g1 : ((X.strOf qt).toList == [43]) = false := by rw [qah]; simpa using h1
 have g2 : ((X.strOf qt).toList == [45]) = true := by rw [qah]; simpa using h2
 have kt := hid (fun W (hb : Below w.heap.size w W) => qaI (h.later hb) [.cells #[.int .i64 12] 3, .cells #[.int .i64 2] 3] [.operator, .appl, .made 12 2] [.func (.func 190) #[] #[], .func (.func 166) #[] #[], .func (.func 186) #[] #[.pointer (some ⟨W.heap.size + 0, 0, none⟩), .pointer (some ⟨W.heap.size + 1, 0, none⟩)]] ⟨fun _ _ => rfl, fun _ _ => rfl, ⟨0, 1, rfl, rfl, rfl⟩, trivial⟩ (by simp) hp 3 rfl)
 replace ka := hid ka
 clear h hp h0 h1 h2
 go_enter Tryz.func167, Tryz.ntmps167
 go_wp2_with fail
 refine ka.out.mono ?_
 rintro e w1 ⟨rfl, hb1⟩
 have kt1 := hid (kt.out w1 hb1)
 have hb1' := hid (hb1.mono (Nat.le_of_lt hlt))
 clear hb1 kt
 go_wp2_with (first | (go_at_call 163; refine (qbp _ _).mono ?_; rintro e w9 ⟨rfl, rfl⟩) | (go_at_call 165; refine (qbq _ _ _).mono ?_; rintro e w9 ⟨rfl, rfl⟩))
 refine kt1.out.mono ?_
 rintro e w2 ⟨rfl, hR, hB⟩
 have hR' := hid hR
 have hB' := hid (hb1'.out.trans hB)
 clear hR hB
 go_wp2_with fail
 go_end0
 exact ⟨⟨rfl, hR'.out⟩, hB'.out⟩
theorem qsK (base bm : Nat) (A : Option Addr) (c : Nat) (ts : List Tok) (σ : PS) (w : World) (h : Rep w base bm A c ts σ) (hp : σ.plan.length <= 1099511627776) (h0 : (qaf σ.rest).text ≠ [58, 61]) (h1 : (qaf σ.rest).text ≠ [43]) (h2 : (qaf σ.rest).text ≠ [45]) (h3 : (qaf σ.rest).text = [42]) :
   Calls Tryz.prog 167 #[.pointer (some ⟨bm, 0, none⟩)] w fun e w' => (e = .returned (.tuple #[]) /\ Rep w' base bm A c ts { σ with plan := [.operator, .appl, .made 12 2] ++ σ.plan }) /\ Below bm w w' := by
 have ka := qaz h
 have hlt := h.lt
 generalize qaf σ.rest = q at ka h0 h1 h2 h3
 obtain ⟨qk, qt, qn⟩ := q
 dsimp only at ka h0 h1 h2 h3
 have g0 : ((X.strOf qt).toList == [58, 61]) = false := by rw [qah]; simpa using h0
 have g1 : ((X.strOf qt).toList == [43]) = false := by rw [qah]; simpa using h1
 have g2 : ((X.strOf qt).toList == [45]) = false := by rw [qah]; simpa using h2
 have g3 : ((X.strOf qt).toList == [42]) = true := by rw [qah]; simpa using h3
 have kt := hid (fun W (hb : Below w.heap.size w W) => qaI (h.later hb) [.cells #[.int .i64 12] 3, .cells #[.int .i64 2] 3] [.operator, .appl, .made 12 2] [.func (.func 190) #[] #[], .func (.func 166) #[] #[], .func (.func 186) #[] #[.pointer (some ⟨W.heap.size + 0, 0, none⟩), .pointer (some ⟨W.heap.size + 1, 0, none⟩)]] ⟨fun _ _ => rfl, fun _ _ => rfl, ⟨0, 1, rfl, rfl, rfl⟩, trivial⟩ (by simp) hp 3 rfl)
 replace ka := hid ka
 clear h hp h0 h1 h2 h3
 go_enter Tryz.func167, Tryz.ntmps167
 go_wp2_with fail
 refine ka.out.mono ?_
 rintro e w1 ⟨rfl, hb1⟩
 have kt1 := hid (kt.out w1 hb1)
 have hb1' := hid (hb1.mono (Nat.le_of_lt hlt))
 clear hb1 kt
 go_wp2_with (first | (go_at_call 163; refine (qbp _ _).mono ?_; rintro e w9 ⟨rfl, rfl⟩) | (go_at_call 165; refine (qbq _ _ _).mono ?_; rintro e w9 ⟨rfl, rfl⟩))
 refine kt1.out.mono ?_
 rintro e w2 ⟨rfl, hR, hB⟩
 have hR' := hid hR
 have hB' := hid (hb1'.out.trans hB)
 clear hR hB
 go_wp2_with fail
 go_end0
 exact ⟨⟨rfl, hR'.out⟩, hB'.out⟩
theorem qsL (base bm : Nat) (A : Option Addr) (c : Nat) (ts : List Tok) (σ : PS) (w : World) (h : Rep w base bm A c ts σ) (hp : σ.plan.length <= 1099511627776) (h0 : (qaf σ.rest).text ≠ [58, 61]) (h1 : (qaf σ.rest).text ≠ [43]) (h2 : (qaf σ.rest).text ≠ [45]) (h3 : (qaf σ.rest).text ≠ [42]) (h4 : (qaf σ.rest).text = [60]) :
   Calls Tryz.prog 167 #[.pointer (some ⟨bm, 0, none⟩)] w fun e w' => (e = .returned (.tuple #[]) /\ Rep w' base bm A c ts { σ with plan := [.operator, .appl, .made 12 2] ++ σ.plan }) /\ Below bm w w' := by
 have ka := qaz h
 have hlt := h.lt
 generalize qaf σ.rest = q at ka h0 h1 h2 h3 h4
 obtain ⟨qk, qt, qn⟩ := q
 dsimp only at ka h0 h1 h2 h3 h4
 have g0 : ((X.strOf qt).toList == [58, 61]) = false := by rw [qah]; simpa using h0
 have g1 : ((X.strOf qt).toList == [43]) = false := by rw [qah]; simpa using h1
 have g2 : ((X.strOf qt).toList == [45]) = false := by rw [qah]; simpa using h2
 have g3 : ((X.strOf qt).toList == [42]) = false := by rw [qah]; simpa using h3
 have g4 : ((X.strOf qt).toList == [60]) = true := by rw [qah]; simpa using h4
 have kt := hid (fun W (hb : Below w.heap.size w W) => qaI (h.later hb) [.cells #[.int .i64 12] 3, .cells #[.int .i64 2] 3] [.operator, .appl, .made 12 2] [.func (.func 190) #[] #[], .func (.func 166) #[] #[], .func (.func 186) #[] #[.pointer (some ⟨W.heap.size + 0, 0, none⟩), .pointer (some ⟨W.heap.size + 1, 0, none⟩)]] ⟨fun _ _ => rfl, fun _ _ => rfl, ⟨0, 1, rfl, rfl, rfl⟩, trivial⟩ (by simp) hp 3 rfl)
 replace ka := hid ka
 clear h hp h0 h1 h2 h3 h4
 go_enter Tryz.func167, Tryz.ntmps167
 go_wp2_with fail
 refine ka.out.mono ?_
 rintro e w1 ⟨rfl, hb1⟩
 have kt1 := hid (kt.out w1 hb1)
 have hb1' := hid (hb1.mono (Nat.le_of_lt hlt))
 clear hb1 kt
 go_wp2_with (first | (go_at_call 163; refine (qbp _ _).mono ?_; rintro e w9 ⟨rfl, rfl⟩) | (go_at_call 165; refine (qbq _ _ _).mono ?_; rintro e w9 ⟨rfl, rfl⟩))
 refine kt1.out.mono ?_
 rintro e w2 ⟨rfl, hR, hB⟩
 have hR' := hid hR
 have hB' := hid (hb1'.out.trans hB)
 clear hR hB
 go_wp2_with fail
 go_end0
 exact ⟨⟨rfl, hR'.out⟩, hB'.out⟩
theorem qsM (base bm : Nat) (A : Option Addr) (c : Nat) (ts : List Tok) (σ : PS) (w : World) (h : Rep w base bm A c ts σ) (hp : σ.plan.length <= 1099511627776) (h0 : (qaf σ.rest).text ≠ [58, 61]) (h1 : (qaf σ.rest).text ≠ [43]) (h2 : (qaf σ.rest).text ≠ [45]) (h3 : (qaf σ.rest).text ≠ [42]) (h4 : (qaf σ.rest).text ≠ [60]) (h5 : (qaf σ.rest).text = [61]) :
   Calls Tryz.prog 167 #[.pointer (some ⟨bm, 0, none⟩)] w fun e w' => (e = .returned (.tuple #[]) /\ Rep w' base bm A c ts { σ with plan := [.operator, .appl, .made 12 2] ++ σ.plan }) /\ Below bm w w' := by
 have ka := qaz h
 have hlt := h.lt
 generalize qaf σ.rest = q at ka h0 h1 h2 h3 h4 h5
 obtain ⟨qk, qt, qn⟩ := q
 dsimp only at ka h0 h1 h2 h3 h4 h5
 have g0 : ((X.strOf qt).toList == [58, 61]) = false := by rw [qah]; simpa using h0
 have g1 : ((X.strOf qt).toList == [43]) = false := by rw [qah]; simpa using h1
 have g2 : ((X.strOf qt).toList == [45]) = false := by rw [qah]; simpa using h2
 have g3 : ((X.strOf qt).toList == [42]) = false := by rw [qah]; simpa using h3
 have g4 : ((X.strOf qt).toList == [60]) = false := by rw [qah]; simpa using h4
 have g5 : ((X.strOf qt).toList == [61]) = true := by rw [qah]; simpa using h5
 have kt := hid (fun W (hb : Below w.heap.size w W) => qaI (h.later hb) [.cells #[.int .i64 12] 3, .cells #[.int .i64 2] 3] [.operator, .appl, .made 12 2] [.func (.func 190) #[] #[], .func (.func 166) #[] #[], .func (.func 186) #[] #[.pointer (some ⟨W.heap.size + 0, 0, none⟩), .pointer (some ⟨W.heap.size + 1, 0, none⟩)]] ⟨fun _ _ => rfl, fun _ _ => rfl, ⟨0, 1, rfl, rfl, rfl⟩, trivial⟩ (by simp) hp 3 rfl)
 replace ka := hid ka
 clear h hp h0 h1 h2 h3 h4 h5
 go_enter Tryz.func167, Tryz.ntmps167
 go_wp2_with fail
 refine ka.out.mono ?_
 rintro e w1 ⟨rfl, hb1⟩
 have kt1 := hid (kt.out w1 hb1)
 have hb1' := hid (hb1.mono (Nat.le_of_lt hlt))
 clear hb1 kt
 go_wp2_with (first | (go_at_call 163; refine (qbp _ _).mono ?_; rintro e w9 ⟨rfl, rfl⟩) | (go_at_call 165; refine (qbq _ _ _).mono ?_; rintro e w9 ⟨rfl, rfl⟩))
 refine kt1.out.mono ?_
 rintro e w2 ⟨rfl, hR, hB⟩
 have hR' := hid hR
 have hB' := hid (hb1'.out.trans hB)
 clear hR hB
 go_wp2_with fail
 go_end0
 exact ⟨⟨rfl, hR'.out⟩, hB'.out⟩
theorem qrT (base bm : Nat) (A : Option Addr) (c : Nat) (ts : List Tok) (σ : PS) (w : World) (h : Rep w base bm A c ts σ) (_hp : σ.plan.length <= 1099511627776) (h0 : (qaf σ.rest).text ≠ [58, 61]) (h1 : (qaf σ.rest).text ≠ [43]) (h2 : (qaf σ.rest).text ≠ [45]) (h3 : (qaf σ.rest).text ≠ [42]) (h4 : (qaf σ.rest).text ≠ [60]) (h5 : (qaf σ.rest).text ≠ [61]) :
   Calls Tryz.prog 167 #[.pointer (some ⟨bm, 0, none⟩)] w fun e w' => (e = .returned (.tuple #[]) /\ Rep w' base bm A c ts σ) /\ Below bm w w' := by
 have ka := qaz h
 have hlt := h.lt
 generalize qaf σ.rest = q at ka h0 h1 h2 h3 h4 h5
 obtain ⟨qk, qt, qn⟩ := q
 dsimp only at ka h0 h1 h2 h3 h4 h5
 have g0 : ((X.strOf qt).toList == [58, 61]) = false := by rw [qah]; simpa using h0
 have g1 : ((X.strOf qt).toList == [43]) = false := by rw [qah]; simpa using h1
 have g2 : ((X.strOf qt).toList == [45]) = false := by rw [qah]; simpa using h2
 have g3 : ((X.strOf qt).toList == [42]) = false := by rw [qah]; simpa using h3
 have g4 : ((X.strOf qt).toList == [60]) = false := by rw [qah]; simpa using h4
 have g5 : ((X.strOf qt).toList == [61]) = false := by rw [qah]; simpa using h5
 have kt := hid (fun W (hb : Below w.heap.size w W) => h.later hb)
 replace ka := hid ka
 clear h _hp h0 h1 h2 h3 h4 h5
 go_enter Tryz.func167, Tryz.ntmps167
 go_wp2_with fail
 refine ka.out.mono ?_
 rintro e w1 ⟨rfl, hb1⟩
 have hR' := hid (kt.out w1 hb1)
 have hB' := hid (hb1.mono (Nat.le_of_lt hlt))
 clear hb1 kt
 go_wp2_with fail
 go_end0
 exact ⟨⟨rfl, hR'.out⟩, hB'.out⟩
theorem qqq (base bm : Nat) (A : Option Addr) (c : Nat) (ts : List Tok) (σ : PS) (w : World) (h : Rep w base bm A c ts σ) (hp : σ.plan.length <= 1099511627776) :
   Calls Tryz.prog 167 #[.pointer (some ⟨bm, 0, none⟩)] w fun e w' => Res base bm A c ts (stepP σ .oper) e w' /\ Below bm w w' := by
 rw [stepP]
 by_cases n9 : (qaf σ.rest).text = [58, 61]
 . rw [if_pos n9]
   exact (qqp base bm A c ts σ w h hp n9).mono fun e w' hq => hq
 rw [if_neg n9]
 by_cases n0 : (qaf σ.rest).text = [43]
 . rw [if_pos (by unfold opS; rw [n0]; decide)]
   exact (qsI base bm A c ts σ w h hp n9 n0).mono fun e w' hq => hq
 by_cases n1 : (qaf σ.rest).text = [45]
 . rw [if_pos (by unfold opS; rw [n1]; decide)]
   exact (qsJ base bm A c ts σ w h hp n9 n0 n1).mono fun e w' hq => hq
 by_cases n2 : (qaf σ.rest).text = [42]
 . rw [if_pos (by unfold opS; rw [n2]; decide)]
   exact (qsK base bm A c ts σ w h hp n9 n0 n1 n2).mono fun e w' hq => hq
 by_cases n3 : (qaf σ.rest).text = [60]
 . rw [if_pos (by unfold opS; rw [n3]; decide)]
   exact (qsL base bm A c ts σ w h hp n9 n0 n1 n2 n3).mono fun e w' hq => hq
 by_cases n4 : (qaf σ.rest).text = [61]
 . rw [if_pos (by unfold opS; rw [n4]; decide)]
   exact (qsM base bm A c ts σ w h hp n9 n0 n1 n2 n3 n4).mono fun e w' hq => hq
 rw [if_neg (by unfold opS; simp [n0, n1, n2, n3, n4])]
 exact (qrT base bm A c ts σ w h hp n9 n0 n1 n2 n3 n4).mono fun e w' hq => hq
theorem qqr (base bm : Nat) (A : Option Addr) (c : Nat) (ts : List Tok) (σ : PS) (w : World) (h : Rep w base bm A c ts σ) (hp : σ.plan.length <= 1099511627776) :
   Calls Tryz.prog 166 #[.pointer (some ⟨bm, 0, none⟩)] w fun e w' => Res base bm A c ts (stepP σ .appl) e w' /\ Below bm w w' := by
 have kt := hid (qaI h [] [.simple, .args] [.func (.func 188) #[] #[], .func (.func 189) #[] #[]] ⟨fun _ _ => rfl, fun _ _ => rfl, trivial⟩ (by simp) hp 2 rfl)
 clear h hp
 go_enter Tryz.func166, Tryz.ntmps166
 go_wp2_with fail
 refine kt.out.mono ?_
 rintro e w2 ⟨rfl, hR, hB⟩
 replace hR := hid hR
 replace hB := hid hB
 go_wp2_with fail
 go_end0
 exact ⟨⟨rfl, hR.out⟩, hB.out⟩
theorem qsN (base bm : Nat) (A : Option Addr) (c : Nat) (ts : List Tok) (σ : PS) (w : World) (h : Rep w base bm A c ts σ) (hp : σ.plan.length <= 1099511627776) (h0 : (qaf σ.rest).kind = 2) :
   Calls Tryz.prog 189 #[.pointer (some ⟨bm, 0, none⟩)] w fun e w' => (e = .returned (.tuple #[]) /\ Rep w' base bm A c ts { σ with plan := [.simple, .made 4 2, .args] ++ σ.plan }) /\ Below bm w w' := by
 have ka := qaz h
 have hlt := h.lt
 generalize qaf σ.rest = q at ka h0
 obtain ⟨qk, qt, qn⟩ := q
 dsimp only at ka h0
 have g0 : (qk == 2) = true := by simpa using h0
 have kt := hid (fun W (hb : Below w.heap.size w W) => qaI (h.later hb) [.cells #[.int .i64 qk, .string (X.strOf qt), .int .i64 qn] 118, .cells #[.int .i64 4] 3, .cells #[.int .i64 2] 3] [.simple, .made 4 2, .args] [.func (.func 188) #[] #[], .func (.func 186) #[] #[.pointer (some ⟨W.heap.size + 1, 0, none⟩), .pointer (some ⟨W.heap.size + 2, 0, none⟩)], .func (.func 189) #[] #[]] ⟨fun _ _ => rfl, ⟨1, 2, rfl, rfl, rfl⟩, fun _ _ => rfl, trivial⟩ (by simp) hp 3 rfl)
 replace ka := hid ka
 clear h hp h0
 go_enter Tryz.func189, Tryz.ntmps189
 go_wp2_with fail
 refine ka.out.mono ?_
 rintro e w1 ⟨rfl, hb1⟩
 have kt1 := hid (kt.out w1 hb1)
 have hb1' := hid (hb1.mono (Nat.le_of_lt hlt))
 clear hb1 kt
 go_wp2_with (first | (go_at_call 163; refine (qbp _ _).mono ?_; rintro e w9 ⟨rfl, rfl⟩) | (go_at_call 165; refine (qbq _ _ _).mono ?_; rintro e w9 ⟨rfl, rfl⟩))
 refine kt1.out.mono ?_
 rintro e w2 ⟨rfl, hR, hB⟩
 have hR' := hid hR
 have hB' := hid (hb1'.out.trans hB)
 clear hR hB
 go_wp2_with fail
 go_end0
 exact ⟨⟨rfl, hR'.out⟩, hB'.out⟩
theorem qsO (base bm : Nat) (A : Option Addr) (c : Nat) (ts : List Tok) (σ : PS) (w : World) (h : Rep w base bm A c ts σ) (hp : σ.plan.length <= 1099511627776) (h0 : (qaf σ.rest).kind ≠ 2) (h1 : (qaf σ.rest).kind = 1) :
   Calls Tryz.prog 189 #[.pointer (some ⟨bm, 0, none⟩)] w fun e w' => (e = .returned (.tuple #[]) /\ Rep w' base bm A c ts { σ with plan := [.simple, .made 4 2, .args] ++ σ.plan }) /\ Below bm w w' := by
 have ka := qaz h
 have hlt := h.lt
 generalize qaf σ.rest = q at ka h0 h1
 obtain ⟨qk, qt, qn⟩ := q
 dsimp only at ka h0 h1
 have g0 : (qk == 2) = false := by simpa using h0
 have g1 : (qk == 1) = true := by simpa using h1
 have kt := hid (fun W (hb : Below w.heap.size w W) => qaI (h.later hb) [.cells #[.int .i64 qk, .string (X.strOf qt), .int .i64 qn] 118, .cells #[.int .i64 4] 3, .cells #[.int .i64 2] 3] [.simple, .made 4 2, .args] [.func (.func 188) #[] #[], .func (.func 186) #[] #[.pointer (some ⟨W.heap.size + 1, 0, none⟩), .pointer (some ⟨W.heap.size + 2, 0, none⟩)], .func (.func 189) #[] #[]] ⟨fun _ _ => rfl, ⟨1, 2, rfl, rfl, rfl⟩, fun _ _ => rfl, trivial⟩ (by simp) hp 3 rfl)
 replace ka := hid ka
 clear h hp h0 h1
 go_enter Tryz.func189, Tryz.ntmps189
 go_wp2_with fail
 refine ka.out.mono ?_
 rintro e w1 ⟨rfl, hb1⟩
 have kt1 := hid (kt.out w1 hb1)
 have hb1' := hid (hb1.mono (Nat.le_of_lt hlt))
 clear hb1 kt
 go_wp2_with (first | (go_at_call 163; refine (qbp _ _).mono ?_; rintro e w9 ⟨rfl, rfl⟩) | (go_at_call 165; refine (qbq _ _ _).mono ?_; rintro e w9 ⟨rfl, rfl⟩))
 refine kt1.out.mono ?_
 rintro e w2 ⟨rfl, hR, hB⟩
 have hR' := hid hR
 have hB' := hid (hb1'.out.trans hB)
 clear hR hB
 go_wp2_with fail
 go_end0
 exact ⟨⟨rfl, hR'.out⟩, hB'.out⟩
theorem qsP (base bm : Nat) (A : Option Addr) (c : Nat) (ts : List Tok) (σ : PS) (w : World) (h : Rep w base bm A c ts σ) (hp : σ.plan.length <= 1099511627776) (h0 : (qaf σ.rest).kind ≠ 2) (h1 : (qaf σ.rest).kind ≠ 1) (h2 : (qaf σ.rest).text = [40]) :
   Calls Tryz.prog 189 #[.pointer (some ⟨bm, 0, none⟩)] w fun e w' => (e = .returned (.tuple #[]) /\ Rep w' base bm A c ts { σ with plan := [.simple, .made 4 2, .args] ++ σ.plan }) /\ Below bm w w' := by
 have ka := qaz h
 have hlt := h.lt
 generalize qaf σ.rest = q at ka h0 h1 h2
 obtain ⟨qk, qt, qn⟩ := q
 dsimp only at ka h0 h1 h2
 have g0 : (qk == 2) = false := by simpa using h0
 have g1 : (qk == 1) = false := by simpa using h1
 have g2 : ((X.strOf qt).toList == [40]) = true := by rw [qah]; simpa using h2
 have kt := hid (fun W (hb : Below w.heap.size w W) => qaI (h.later hb) [.cells #[.int .i64 qk, .string (X.strOf qt), .int .i64 qn] 118, .cells #[.int .i64 4] 3, .cells #[.int .i64 2] 3] [.simple, .made 4 2, .args] [.func (.func 188) #[] #[], .func (.func 186) #[] #[.pointer (some ⟨W.heap.size + 1, 0, none⟩), .pointer (some ⟨W.heap.size + 2, 0, none⟩)], .func (.func 189) #[] #[]] ⟨fun _ _ => rfl, ⟨1, 2, rfl, rfl, rfl⟩, fun _ _ => rfl, trivial⟩ (by simp) hp 3 rfl)
 replace ka := hid ka
 clear h hp h0 h1 h2
 go_enter Tryz.func189, Tryz.ntmps189
 go_wp2_with fail
 refine ka.out.mono ?_
 rintro e w1 ⟨rfl, hb1⟩
 have kt1 := hid (kt.out w1 hb1)
 have hb1' := hid (hb1.mono (Nat.le_of_lt hlt))
 clear hb1 kt
 go_wp2_with (first | (go_at_call 163; refine (qbp _ _).mono ?_; rintro e w9 ⟨rfl, rfl⟩) | (go_at_call 165; refine (qbq _ _ _).mono ?_; rintro e w9 ⟨rfl, rfl⟩))
 refine kt1.out.mono ?_
 rintro e w2 ⟨rfl, hR, hB⟩
 have hR' := hid hR
 have hB' := hid (hb1'.out.trans hB)
 clear hR hB
 go_wp2_with fail
 go_end0
 exact ⟨⟨rfl, hR'.out⟩, hB'.out⟩
theorem qsQ (base bm : Nat) (A : Option Addr) (c : Nat) (ts : List Tok) (σ : PS) (w : World) (h : Rep w base bm A c ts σ) (hp : σ.plan.length <= 1099511627776) (h0 : (qaf σ.rest).kind ≠ 2) (h1 : (qaf σ.rest).kind ≠ 1) (h2 : (qaf σ.rest).text ≠ [40]) (h3 : (qaf σ.rest).text = [33]) :
   Calls Tryz.prog 189 #[.pointer (some ⟨bm, 0, none⟩)] w fun e w' => (e = .returned (.tuple #[]) /\ Rep w' base bm A c ts { σ with plan := [.simple, .made 4 2, .args] ++ σ.plan }) /\ Below bm w w' := by
 have ka := qaz h
 have hlt := h.lt
 generalize qaf σ.rest = q at ka h0 h1 h2 h3
 obtain ⟨qk, qt, qn⟩ := q
 dsimp only at ka h0 h1 h2 h3
 have g0 : (qk == 2) = false := by simpa using h0
 have g1 : (qk == 1) = false := by simpa using h1
 have g2 : ((X.strOf qt).toList == [40]) = false := by rw [qah]; simpa using h2
 have g3 : ((X.strOf qt).toList == [33]) = true := by rw [qah]; simpa using h3
 have kt := hid (fun W (hb : Below w.heap.size w W) => qaI (h.later hb) [.cells #[.int .i64 qk, .string (X.strOf qt), .int .i64 qn] 118, .cells #[.int .i64 4] 3, .cells #[.int .i64 2] 3] [.simple, .made 4 2, .args] [.func (.func 188) #[] #[], .func (.func 186) #[] #[.pointer (some ⟨W.heap.size + 1, 0, none⟩), .pointer (some ⟨W.heap.size + 2, 0, none⟩)], .func (.func 189) #[] #[]] ⟨fun _ _ => rfl, ⟨1, 2, rfl, rfl, rfl⟩, fun _ _ => rfl, trivial⟩ (by simp) hp 3 rfl)
 replace ka := hid ka
 clear h hp h0 h1 h2 h3
 go_enter Tryz.func189, Tryz.ntmps189
 go_wp2_with fail
 refine ka.out.mono ?_
 rintro e w1 ⟨rfl, hb1⟩
 have kt1 := hid (kt.out w1 hb1)
 have hb1' := hid (hb1.mono (Nat.le_of_lt hlt))
 clear hb1 kt
 go_wp2_with (first | (go_at_call 163; refine (qbp _ _).mono ?_; rintro e w9 ⟨rfl, rfl⟩) | (go_at_call 165; refine (qbq _ _ _).mono ?_; rintro e w9 ⟨rfl, rfl⟩))
 refine kt1.out.mono ?_
 rintro e w2 ⟨rfl, hR, hB⟩
 have hR' := hid hR
 have hB' := hid (hb1'.out.trans hB)
 clear hR hB
 go_wp2_with fail
 go_end0
 exact ⟨⟨rfl, hR'.out⟩, hB'.out⟩
theorem qrU (base bm : Nat) (A : Option Addr) (c : Nat) (ts : List Tok) (σ : PS) (w : World) (h : Rep w base bm A c ts σ) (_hp : σ.plan.length <= 1099511627776) (h0 : (qaf σ.rest).kind ≠ 2) (h1 : (qaf σ.rest).kind ≠ 1) (h2 : (qaf σ.rest).text ≠ [40]) (h3 : (qaf σ.rest).text ≠ [33]) :
   Calls Tryz.prog 189 #[.pointer (some ⟨bm, 0, none⟩)] w fun e w' => (e = .returned (.tuple #[]) /\ Rep w' base bm A c ts σ) /\ Below bm w w' := by
 have ka := qaz h
 have hlt := h.lt
 generalize qaf σ.rest = q at ka h0 h1 h2 h3
 obtain ⟨qk, qt, qn⟩ := q
 dsimp only at ka h0 h1 h2 h3
 have g0 : (qk == 2) = false := by simpa using h0
 have g1 : (qk == 1) = false := by simpa using h1
 have g2 : ((X.strOf qt).toList == [40]) = false := by rw [qah]; simpa using h2
 have g3 : ((X.strOf qt).toList == [33]) = false := by rw [qah]; simpa using h3
 have kt := hid (fun W (hb : Below w.heap.size w W) => h.later hb)
 replace ka := hid ka
 clear h _hp h0 h1 h2 h3
 go_enter Tryz.func189, Tryz.ntmps189
 go_wp2_with fail
 refine ka.out.mono ?_
 rintro e w1 ⟨rfl, hb1⟩
 have hb2 := hb1.trans ((X.qab w1 (.cells #[.int .i64 qk, .string (X.strOf qt), .int .i64 qn] 118)).mono hb1.size)
 have hR' := hid (kt.out _ hb2)
 have hB' := hid (hb2.mono (Nat.le_of_lt hlt))
 clear hb1 hb2 kt
 go_wp2_with fail
 go_end0
 exact ⟨⟨rfl, hR'.out⟩, hB'.out⟩
theorem qqs (base bm : Nat) (A : Option Addr) (c : Nat) (ts : List Tok) (σ : PS) (w : World) (h : Rep w base bm A c ts σ) (hp : σ.plan.length <= 1099511627776) :
   Calls Tryz.prog 189 #[.pointer (some ⟨bm, 0, none⟩)] w fun e w' => Res base bm A c ts (stepP σ .args) e w' /\ Below bm w w' := by
 rw [stepP]
 by_cases n0 : (qaf σ.rest).kind = 2
 . rw [if_pos (by unfold atP; simp [n0])]
   exact (qsN base bm A c ts σ w h hp n0).mono fun e w' hq => hq
 by_cases n1 : (qaf σ.rest).kind = 1
 . rw [if_pos (by unfold atP; simp [n1])]
   exact (qsO base bm A c ts σ w h hp n0 n1).mono fun e w' hq => hq
 by_cases n2 : (qaf σ.rest).text = [40]
 . rw [if_pos (by unfold atP; simp [n2])]
   exact (qsP base bm A c ts σ w h hp n0 n1 n2).mono fun e w' hq => hq
 by_cases n3 : (qaf σ.rest).text = [33]
 . rw [if_pos (by unfold atP; simp [n3])]
   exact (qsQ base bm A c ts σ w h hp n0 n1 n2 n3).mono fun e w' hq => hq
 rw [if_neg (by unfold atP; simp [n0, n1, n2, n3])]
 exact (qrU base bm A c ts σ w h hp n0 n1 n2 n3).mono fun e w' hq => hq
end Go.Proofs.YtjnfhebbphdchaaGreatDoor.Pa
namespace Go.Proofs.YtjnfhebbphdchaaGreatDoor.Pa
open Go.RowKit Go.Shelf Go.Tm Go.Lx
attribute [local go_sem] Oper.semAt_some qbT
variable [Inhabited PE]
theorem qmO (base bm : Nat) (A : Option Addr) (c : Nat) (ts : List Tok) (σ : PS) (w : World) (h : Rep w base bm A c ts σ) (hp : σ.plan.length <= 1099511627776) (h0 : (qaf σ.rest).kind ≠ 2) (h1 : (qaf σ.rest).kind ≠ 1) (h2 : (qaf σ.rest).text = [40]) :
   Calls Tryz.prog 188 #[.pointer (some ⟨bm, 0, none⟩)] w fun e w' => (e = .returned (.tuple #[]) /\ Rep w' base bm A c ts { σ with plan := [.word [40], .seq, .word [41]] ++ σ.plan }) /\ Below bm w w' := by
 have ka := qaz h
 have hlt := h.lt
 generalize qaf σ.rest = q at ka h0 h1 h2
 obtain ⟨qk, qt, qn⟩ := q
 dsimp only at ka h0 h1 h2
 have g0 : (qk == 2) = false := by simpa using h0
 have g1 : (qk == 1) = false := by simpa using h1
 have g2 : ((X.strOf qt).toList == [40]) = true := by rw [qah]; simpa using h2
 have kt := hid (fun W (hb : Below w.heap.size w W) => qaI (h.later hb) [.cells #[.int .i64 qk, .string (X.strOf qt), .int .i64 qn] 118, .cells #[.string (txB [40])] 9, .cells #[.string (txB [41])] 9] [.word [40], .seq, .word [41]] [.func (.func 184) #[] #[.pointer (some ⟨W.heap.size + 1, 0, none⟩)], .func (.func 99) #[] #[], .func (.func 184) #[] #[.pointer (some ⟨W.heap.size + 2, 0, none⟩)]] ⟨⟨1, rfl, rfl⟩, fun _ _ => rfl, ⟨2, rfl, rfl⟩, trivial⟩ (by simp) hp 3 rfl)
 replace ka := hid ka
 clear h hp h0 h1 h2
 go_enter Tryz.func188, Tryz.ntmps188
 go_wp2_with fail
 refine ka.out.mono ?_
 rintro e w1 ⟨rfl, hb1⟩
 have kt1 := hid (kt.out w1 hb1)
 have hb1' := hid (hb1.mono (Nat.le_of_lt hlt))
 clear hb1 kt
 go_wp2_with (first | (go_at_call 163; refine (qbp _ _).mono ?_; rintro e w9 ⟨rfl, rfl⟩) | (go_at_call 165; refine (qbq _ _ _).mono ?_; rintro e w9 ⟨rfl, rfl⟩))
 refine kt1.out.mono ?_
 rintro e w2 ⟨rfl, hR, hB⟩
 have hR' := hid hR
 have hB' := hid (hb1'.out.trans hB)
 clear hR hB
 go_wp2_with fail
 go_end0
 exact ⟨⟨rfl, hR'.out⟩, hB'.out⟩
theorem qmP (base bm : Nat) (A : Option Addr) (c : Nat) (ts : List Tok) (σ : PS) (w : World) (h : Rep w base bm A c ts σ) (hp : σ.plan.length <= 1099511627776) (h0 : (qaf σ.rest).kind ≠ 2) (h1 : (qaf σ.rest).kind ≠ 1) (h2 : (qaf σ.rest).text ≠ [40]) (h3 : (qaf σ.rest).text = [33]) :
   Calls Tryz.prog 188 #[.pointer (some ⟨bm, 0, none⟩)] w fun e w' => (e = .returned (.tuple #[]) /\ Rep w' base bm A c ts { σ with plan := [.word [33], .simple, .made 10 1] ++ σ.plan }) /\ Below bm w w' := by
 have ka := qaz h
 have hlt := h.lt
 generalize qaf σ.rest = q at ka h0 h1 h2 h3
 obtain ⟨qk, qt, qn⟩ := q
 dsimp only at ka h0 h1 h2 h3
 have g0 : (qk == 2) = false := by simpa using h0
 have g1 : (qk == 1) = false := by simpa using h1
 have g2 : ((X.strOf qt).toList == [40]) = false := by rw [qah]; simpa using h2
 have g3 : ((X.strOf qt).toList == [33]) = true := by rw [qah]; simpa using h3
 have kt := hid (fun W (hb : Below w.heap.size w W) => qaI (h.later hb) [.cells #[.int .i64 qk, .string (X.strOf qt), .int .i64 qn] 118, .cells #[.string (txB [33])] 9, .cells #[.int .i64 10] 3, .cells #[.int .i64 1] 3] [.word [33], .simple, .made 10 1] [.func (.func 184) #[] #[.pointer (some ⟨W.heap.size + 1, 0, none⟩)], .func (.func 188) #[] #[], .func (.func 186) #[] #[.pointer (some ⟨W.heap.size + 2, 0, none⟩), .pointer (some ⟨W.heap.size + 3, 0, none⟩)]] ⟨⟨1, rfl, rfl⟩, fun _ _ => rfl, ⟨2, 3, rfl, rfl, rfl⟩, trivial⟩ (by simp) hp 3 rfl)
 replace ka := hid ka
 clear h hp h0 h1 h2 h3
 go_enter Tryz.func188, Tryz.ntmps188
 go_wp2_with fail
 refine ka.out.mono ?_
 rintro e w1 ⟨rfl, hb1⟩
 have kt1 := hid (kt.out w1 hb1)
 have hb1' := hid (hb1.mono (Nat.le_of_lt hlt))
 clear hb1 kt
 go_wp2_with (first | (go_at_call 163; refine (qbp _ _).mono ?_; rintro e w9 ⟨rfl, rfl⟩) | (go_at_call 165; refine (qbq _ _ _).mono ?_; rintro e w9 ⟨rfl, rfl⟩))
 refine kt1.out.mono ?_
 rintro e w2 ⟨rfl, hR, hB⟩
 have hR' := hid hR
 have hB' := hid (hb1'.out.trans hB)
 clear hR hB
 go_wp2_with fail
 go_end0
 exact ⟨⟨rfl, hR'.out⟩, hB'.out⟩
end Go.Proofs.YtjnfhebbphdchaaGreatDoor.Pa
