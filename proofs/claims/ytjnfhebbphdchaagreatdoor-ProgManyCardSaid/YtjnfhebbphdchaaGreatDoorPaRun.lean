/-
  keep: a term is made of the last ones. Conditions: the reader stands as told; while terms are made, as many are there as are asked for.
  keep:
  keep in one;
  name, operator:
  The step that makes a term.
  Any step that is planned, as a function's value.
  run:
-/
import Derived.Test.YtjnfhebbphdchaaGreatDoorPaSteps
import Derived.Deep.RegionLaw
import Derived.Maps.AppendAt
import Derived.Deep.QuietTactic
import Derived.OrdersHeld
import Derived.Test.YtjnfhebbphdchaaGreatDoorTmWords
import Derived.Test.YtjnfhebbphdchaaGreatDoorPaAhead
import Derived.Test.YtjnfhebbphdchaaGreatDoorPaMath
import Derived.Deep.LoopGhost
import Derived.StillTailTactics
set_option maxHeartbeats 4000000
set_option maxRecDepth 100000
open Go.Lib (hid)
namespace Go.Proofs.YtjnfhebbphdchaaGreatDoor.Pa
open Go.RowKit Go.Shelf Go.Tm Go.Lx
attribute [local go_sem] Oper.semAt_some
section
variable [Inhabited PE]
section
variable {W W' : World} {base bm : Nat} {A : Option Addr} {c : Nat} {ts : List Tok} {σ : PS} {k : Nat} {pl nm tm : Value} {vs : List Value} {xs : List (Go.Tm.T × Option Addr × Nat)}
theorem St.putT (h : St W base bm A c ts σ k pl nm tm vs xs) {f : Nat} (hf : f <= xs.length) {x : Go.Tm.T × Option Addr × Nat} {tm' : Value} (hx : TmV W (Fix W bm pl nm tm) x.1 x.2.1 x.2.2) (hg : W.grownBy W' tm.ownBlock)
   (ho : W'.ownsRow (bm + 1) 26 4 tm' (f + 1) ((xs.take f).flatMap tmC ++ tmC x)) (hat : tm'.ownBlock = tm.ownBlock ∨ tm'.ownBlock = some W.heap.size) (hm : f + 1 <= σ.made) :
   St (W'.setCell ⟨bm, 4, none⟩ tm') base bm A c ts { σ with terms := (xs.take f).map (·.1) ++ [x.1] } k pl nm tm' vs (xs.take f ++ [x]) := by
 have hkB : ∀ b, FixB W bm pl nm tm b -> FixB (W'.setCell ⟨bm, 4, none⟩ tm') bm pl nm tm' b /\ (W'.setCell ⟨bm, 4, none⟩ tm').heap[b]? = W.heap[b]? := fun b hb => by
   have he := (Below.heap_setCell W' ⟨bm, 4, none⟩ tm' b hb.box).trans (hg.block b hb.lt (Ne.symm hb.tm))
   exact ⟨hb.keep he (qaj _ _) (qaj _ _) (qix hat), he⟩
 have hk := qgM hkB
 have hne : ∀ {v2 : Value} {e : TypeId} {size n : Nat} {l : List Value}, W.ownsRow (bm + 1) e size v2 n l -> (∀ b, v2.ownBlock = some b -> tm.ownBlock ≠ some b) -> ∀ g, v2.ownBlock = some g -> g < W.heap.size -> (W'.setCell ⟨bm, 4, none⟩ tm').heap[g]? = W.heap[g]? := fun ho2 hd g hg2 hl =>
   (Below.heap_setCell W' ⟨bm, 4, none⟩ tm' g (qcd ho2 hg2)).trans (hg.block g hl fun e => hd g hg2 e.symm)
 refine ⟨(h.rdr.grown hg fun g e => (h.tAt e).1).field 4 tm' rfl, h.rest, qal h.pown fun g e => hne h.pown h.pt g e (h.pAt e).2, h.pst.kept hk, qal h.nown fun g e => hne h.nown h.nt g e (h.nAt e).2, h.nsz, ?_, ?_, ?_, h.pn, ?_, ?_, h.made, ?_, fun x o hx => ⟨(hkB x (h.prot x o hx).2).2.trans (h.prot x o hx).1, (hkB x (h.prot x o hx).2).1⟩⟩
 . rw [List.length_append, List.length_take, List.length_singleton, Nat.min_eq_left hf, List.flatMap_append, List.flatMap_cons, List.flatMap_nil, List.append_nil]
   exact qal ho fun g e => Below.heap_setCell W' ⟨bm, 4, none⟩ tm' g (qcd ho e)
 . intro y hy
   have hky : TmV W (Fix W bm pl nm tm) y.1 y.2.1 y.2.2 := by
     rcases List.mem_append.1 hy with hy | hy
     . exact h.tms y (List.mem_of_mem_take hy)
     . rw [List.mem_singleton.1 hy]; exact hx
   exact hky.kept (fun b hb => (hk b hb).1) (fun b hb => (hk b hb).2)
 . rw [List.map_append]; rfl
 . intro b hb hn
   rcases hat with e | e
   . exact h.pt b hb (e ▸ hn)
   . rw [e] at hn; injection hn with hn; have := (h.pAt hb).2; omega
 . intro b hb hn
   rcases hat with e | e
   . exact h.nt b hb (e ▸ hn)
   . rw [e] at hn; injection hn with hn; have := (h.nAt hb).2; omega
 . show ((xs.take f).map (·.1) ++ [x.1]).length <= σ.made
   rw [List.length_append, List.length_map, List.length_take, List.length_singleton, Nat.min_eq_left hf]
   exact hm
end
end
section
variable [Inhabited PE]
theorem qot (base bm : Nat) (A : Option Addr) (c : Nat) (ts : List Tok) (σ : PS) (kd num : Int) (s : ByteArray) (n : Nat) (w : World) (h : Rep w base bm A c ts σ) (hm : 10000 < σ.made) :
   Calls Tryz.prog 187 #[.pointer (some ⟨bm, 0, none⟩), .agg #[.int .i64 kd, .string s, .int .i64 num, .slice none 0 0], .int .i64 n] w fun e w' => e = .returned (.tuple #[]) /\ Rep w' base bm A c ts σ /\ Below w.heap.size w w' := by
 have hb := X.qab w (.cells #[.int .i64 kd, .string s, .int .i64 num, .slice none 0 0] 26)
 obtain ⟨k, pl, nm, tm, vs, xs, h1⟩ := h.later hb
 have p5 : (w.alloc (.cells #[.int .i64 kd, .string s, .int .i64 num, .slice none 0 0] 26)).cell? ⟨bm, 5, none⟩ = some (.int .i64 σ.made) := qaa _ bm 5 _ _ _ h1.rdr.box
 have hR : Hid (Rep (w.alloc (.cells #[.int .i64 kd, .string s, .int .i64 num, .slice none 0 0] 26)) base bm A c ts σ) := ⟨k, pl, nm, tm, vs, xs, h1⟩
 have hg : (10000 : Int) < (σ.made : Int) := by omega
 clear h1 h hm
 replace hb := hid hb
 go_enter Tryz.func187, Tryz.ntmps187
 go_wp2_with fail
 refine bodyPost_ret (results_none rfl _ _ _) rfl ⟨rfl, hR.out, hb.out⟩
theorem qou (base bm : Nat) (A : Option Addr) (c : Nat) (ts : List Tok) (σ : PS) (kd num : Int) (s : ByteArray) (n : Nat) (w : World) (h : Rep w base bm A c ts σ) (hm : σ.made = 10000) :
   Calls Tryz.prog 187 #[.pointer (some ⟨bm, 0, none⟩), .agg #[.int .i64 kd, .string s, .int .i64 num, .slice none 0 0], .int .i64 n] w fun e w' => e = qhH 1 /\ Rep w' base bm A c ts { σ with made := σ.made + 1 } /\ Below bm w w' := by
 have hb := X.qab w (.cells #[.int .i64 kd, .string s, .int .i64 num, .slice none 0 0] 26)
 obtain ⟨k, pl, nm, tm, vs, xs, h0⟩ := h
 have hbm := h0.lt
 have h1 := h0.later hb
 have h2 := h1.count (by omega)
 have ek : ((σ.made + 1 : Nat) : Int) = (σ.made : Int) + 1 := by omega
 rw [ek] at h2
 have hB := (hb.mono (Nat.le_of_lt hbm)).setCell (p := ⟨bm, 5, none⟩) (Nat.le_refl _) (.int .i64 ((σ.made : Int) + 1))
 obtain ⟨w1, hw1⟩ : ∃ w1, w.alloc (.cells #[.int .i64 kd, .string s, .int .i64 num, .slice none 0 0] 26) = w1 := ⟨_, rfl⟩
 rw [hw1] at h1 h2 hB
 obtain ⟨w2, hw2⟩ : ∃ w2, w1.setCell ⟨bm, 5, none⟩ (.int .i64 ((σ.made : Int) + 1)) = w2 := ⟨_, rfl⟩
 rw [hw2] at h2 hB
 have p5 : w1.cell? ⟨bm, 5, none⟩ = some (.int .i64 σ.made) := qaa _ bm 5 _ _ _ h1.rdr.box
 have f5 : w1.frozen? ⟨bm, 5, none⟩ = false := qac h1.rdr.box 5
 have q5 : w2.cell? ⟨bm, 5, none⟩ = some (.int .i64 ((σ.made : Int) + 1)) := by
   have := qaa _ bm 5 _ _ _ h2.rdr.box
   rw [show (({ σ with made := σ.made + 1 } : PS).made : Int) = (σ.made : Int) + 1 from ek] at this
   exact this
 have hR : Hid (Rep w2 base bm A c ts { σ with made := σ.made + 1 }) := ⟨k, pl, nm, tm, vs, xs, h2⟩
 replace hB := hid hB
 have g1 : ¬ (10000 : Int) < (σ.made : Int) := by omega
 have g2 : (10000 : Int) < (σ.made : Int) + 1 := by omega
 have g3 : (σ.made : Int) <= 20000 := by omega
 clear h1 h2 h0 hm ek hb
 go_enter Tryz.func187, Tryz.ntmps187
 go_wp2_with fail
 exact ⟨rfl, rfl, hR.out, hB.out⟩
end
theorem qrV : ∃ i, Tryz.prog.info? 26 = some i /\ i.zero = some (.agg #[.int .i64 0, .string ⟨#[]⟩, .int .i64 0, .slice none 0 0]) /\ i.size = 4 /\ i.bytes = 56 := by
 have h9 := qoq
 cases hh : Tryz.prog.info? 26 with
 | none => rw [hh] at h9; cases h9
 | some i =>
   rw [hh] at h9
   injection h9 with h9
   injection h9 with h1 h9
   injection h9 with h2 h3
   exact ⟨i, rfl, h1, h2, h3⟩
theorem qek (xs : List (Go.Tm.T × Option Addr × Nat)) : (xs.flatMap tmC).length = xs.length * 4 := by
 induction xs with
 | nil => rfl
 | cons x xs ih => rw [List.flatMap_cons, List.length_append, ih, List.length_cons]; show 4 + _ = _; omega
theorem qrW {xs : List (Go.Tm.T × Option Addr × Nat)} (u : Value) (hu : u ∈ xs.flatMap tmC) : u.oneCell' = true := by
 rw [List.mem_flatMap] at hu
 obtain ⟨x, _, hx⟩ := hu
 exact qrP x u hx
theorem qqt (xs : List (Go.Tm.T × Option Addr × Nat)) (f : Nat) (j : Nat) : ((xs.drop f).flatMap tmC)[j]? = (xs.flatMap tmC)[f * 4 + j]? := by
 conv => rhs; rw [<- List.take_append_drop f xs, List.flatMap_append]
 by_cases hf : f <= xs.length
 . rw [List.getElem?_append_right (by rw [qek, List.length_take]; omega), qek, List.length_take, Nat.min_eq_left hf]
   congr 1; omega
 . rw [List.drop_eq_nil_of_le (by omega), List.take_of_length_le (by omega)]
   rw [List.flatMap_nil, List.append_nil, List.getElem?_eq_none (by simp), List.getElem?_eq_none (by rw [qek]; omega)]
theorem qiy (xs : List (Go.Tm.T × Option Addr × Nat)) (f : Nat) : (xs.flatMap tmC).take (f * 4) = (xs.take f).flatMap tmC := by
 by_cases hf : f <= xs.length
 . conv => lhs; rw [<- List.take_append_drop f xs, List.flatMap_append]
   rw [List.take_append_of_le_length (by rw [qek, List.length_take]; omega), List.take_of_length_le (by rw [qek, List.length_take]; omega)]
 . rw [List.take_of_length_le (by rw [qek]; omega), List.take_of_length_le (by omega)]
section
variable [Inhabited PE]
structure K4 (w V : World) (base bm : Nat) (A : Option Addr) (c : Nat) (ts : List Tok) (σ : PS) (k : Nat) (pl nm tm : Value) (vs : List Value) (xs : List (Go.Tm.T × Option Addr × Nat)) (f : Nat) (kd num : Int) (s : ByteArray) (KA : Option Addr) (n kc : Nat) (W : World) : Prop where
 st : St W base bm A c ts σ k pl nm tm vs xs
 fl : f <= xs.length
 few : f + 1 <= σ.made
 below : Below bm w W
 box : W.heap[w.heap.size]? = some (.cells #[.int .i64 kd, .string s, .int .i64 num, .slice KA n kc] 26 (0, 0))
 len : ((xs.drop f).map (·.1)).length = n
 row : TmV W (Fix W bm pl nm tm) (.node kd s num ((xs.drop f).map (·.1))) KA kc
theorem K4.done {w V : World} {base bm : Nat} {A : Option Addr} {c : Nat} {ts : List Tok} {σ : PS} {k : Nat} {pl nm tm : Value} {vs : List Value} {xs : List (Go.Tm.T × Option Addr × Nat)} {f : Nat} {kd num : Int} {s : ByteArray} {KA : Option Addr} {n kc : Nat} {W X W7 : World} {tm' : Value}
   (h : K4 w V base bm A c ts σ k pl nm tm vs xs f kd num s KA n kc W) (hX : Below W.heap.size W X) (hg : X.grownBy W7 tm.ownBlock) (ho : W7.ownsRow (bm + 1) 26 4 tm' (f + 1) ((xs.take f).flatMap tmC ++ tmC (.node kd s num ((xs.drop f).map (·.1)), KA, kc))) (hat : tm'.ownBlock = tm.ownBlock ∨ tm'.ownBlock = some X.heap.size) :
   W7.cell? ⟨bm, 4, none⟩ = some tm /\ W7.frozen? ⟨bm, 4, none⟩ = false /\ Rep (W7.setCell ⟨bm, 4, none⟩ tm') base bm A c ts { σ with terms := σ.terms.take f ++ [.node kd s num (σ.terms.drop f)] } /\ Below bm w (W7.setCell ⟨bm, 4, none⟩ tm') := by
 have h2 := h.st.later hX
 have hF : ∀ b, Fix W bm pl nm tm b -> Fix X bm pl nm tm b /\ X.heap[b]? = W.heap[b]? := fun b hb => ⟨hb.keep (hX.block b hb.lt) (qaj _ _) (qaj _ _) (qaj _ _), hX.block b hb.lt⟩
 have hbne : some bm ≠ tm.ownBlock := fun e => by have := (h2.tAt e.symm).1; omega
 have hb7 := (hg.block bm h2.lt hbne).trans h2.rdr.box
 have h3 := h2.putT (x := (.node kd s num ((xs.drop f).map (·.1)), KA, kc)) h.fl (h.row.kept (fun b hb => (hF b hb).1) (fun b hb => (hF b hb).2)) hg ho hat h.few
 refine ⟨qaa W7 bm 4 _ _ _ hb7, qac hb7 4, ⟨k, pl, nm, tm', vs, xs.take f ++ [(.node kd s num ((xs.drop f).map (·.1)), KA, kc)], ?_⟩, ?_⟩
 . have e : (xs.take f).map (·.1) ++ [Go.Tm.T.node kd s num ((xs.drop f).map (·.1))] = σ.terms.take f ++ [.node kd s num (σ.terms.drop f)] := by rw [List.map_take, List.map_drop, h.st.teq]
   rw [<- e]; exact h3
 . have h8 : Below bm X W7 := ⟨hg.os, hg.tape, hg.output, hg.size, fun x hx => hg.block x (by have := h2.lt; omega) fun e => by have := (h2.tAt e.symm).1; omega⟩
   exact h.below.trans ((hX.mono (by have := h.st.lt; omega)).trans (h8.setCell (p := ⟨bm, 4, none⟩) (Nat.le_refl _) _))
end
theorem qkL {w w1 w2 : World} {bm : Nat} {v : Value} {o : Obj} (h1 : w.alloc o = w1) (h2 : w1.setCell ⟨bm, 5, none⟩ v = w2) (hb : bm < w.heap.size) {u0 u1 u2 u3 u4 u5 : Value} {ty : TypeId} (hx : w.heap[bm]? = some (.cells #[u0, u1, u2, u3, u4, u5] ty (0, 0))) : Below (w.setCell ⟨bm, 5, none⟩ v).heap.size (w.setCell ⟨bm, 5, none⟩ v) w2 := by
 have hz : (w.setCell ⟨bm, 5, none⟩ v).heap.size = w.heap.size := by simp
 rw [hz]
 subst h1; subst h2
 refine ⟨rfl, rfl, rfl, by simp, fun j hj => ?_⟩
 have ha : (w.alloc o).heap[j]? = w.heap[j]? := Below.heap_alloc _ _ _ hj
 by_cases e : j = bm
 . subst e
   exact (heap_setCell_same _ j 5 _ _ v (ha.trans hx)).trans (heap_setCell_same w j 5 _ _ v hx).symm
 . exact ((Below.heap_setCell _ ⟨bm, 5, none⟩ v j e).trans ha).trans (Below.heap_setCell w ⟨bm, 5, none⟩ v j e).symm
theorem qjl {W : World} {b i : Nat} {cur : Array Value} {ty : TypeId} {f : Nat × Nat} (h : W.heap[b]? = some (.cells cur ty f)) : W.cell? ⟨b, i, none⟩ = cur[i]? := qaa W b i _ _ _ h
theorem qkM {W : World} {b : Nat} {v0 v1 v2 v3 : Value} {ty : TypeId} (h : W.heap[b]? = some (.cells #[v0, v1, v2, v3] ty (0, 0))) (j : Nat) (u : Value) (hj : [v0, v1, v2, v3][j]? = some u) : W.cell? ((⟨b, 0, none⟩ : Addr).add j) = some u := by
 rw [qdH, Nat.zero_add, qaa _ _ j _ _ _ h, <- hj]
 show ([v0, v1, v2, v3].toArray)[j]? = _
 rw [List.getElem?_toArray]
theorem qiz {k n : Int} {s : ByteArray} {A : Option Addr} {m c : Nat} (u : Value) (hu : u ∈ [Value.int .i64 k, .string s, .int .i64 n, .slice A m c]) : u.oneCell' = true := by
 simp at hu
 rcases hu with rfl | rfl | rfl | rfl <;> rfl
theorem qkN {k n : Int} {s : ByteArray} {A : Option Addr} {m c : Nat} {ks : List Go.Tm.T} (h : ks.length = m) : tmC (.node k s n ks, A, c) = [.int .i64 k, .string s, .int .i64 n, .slice A m c] := by
 unfold tmC
 show [_, _, _, Value.slice A ks.length c] = _
 rw [h]; rfl
section
variable [Inhabited PE]
theorem K4.make {w V w2 w3 : World} {base bm : Nat} {A : Option Addr} {c : Nat} {ts : List Tok} {σ : PS} {k : Nat} {pl nm tm : Value} {vs : List Value} {xs : List (Go.Tm.T × Option Addr × Nat)} {f n : Nat} {kd num : Int} {s : ByteArray} {v3 : Value}
   (hV : St V base bm A c ts σ k pl nm tm vs xs) (hVz : V.heap.size = w.heap.size) (hVb : Below bm w V) (hb2 : Below V.heap.size V w2) (hx2 : w2.heap[w.heap.size]? = some (.cells #[.int .i64 kd, .string s, .int .i64 num, .slice none 0 0] 26 (0, 0))) (hfx : f <= xs.length) (hfew : f + 1 <= σ.made) (hl : xs.length - f = n) (hs : s.size <= 9223372036854775807)
   (ho3 : w3.ownsRow (bm + 1) 26 4 v3 n ((xs.drop f).flatMap tmC)) (hg3 : w2.grownBy w3 (Value.slice none 0 0).ownBlock) (hnil : v3 = .slice none 0 0 ↔ n = 0) (hat3 : v3.ownBlock = (Value.slice none 0 0).ownBlock ∨ v3.ownBlock = some w2.heap.size) :
   ∃ KA kc, v3 = .slice KA n kc /\ w3.cell? ⟨w.heap.size, 3, none⟩ = some (.slice none 0 0) /\ w3.frozen? ⟨w.heap.size, 3, none⟩ = false /\ K4 w V base bm A c ts σ k pl nm tm vs xs f kd num s KA n kc (w3.setCell ⟨w.heap.size, 3, none⟩ v3) := by
 have hb3 : Below w2.heap.size w2 w3 := ⟨hg3.os, hg3.tape, hg3.output, hg3.size, fun x hx => hg3.block x hx (by simp [Value.ownBlock])⟩
 have hlx := World.lt_of_get hx2
 have hx3 := (hb3.block w.heap.size hlx).trans hx2
 have hbm : bm < V.heap.size := hV.lt
 have hb4 : Below V.heap.size V (w3.setCell ⟨w.heap.size, 3, none⟩ v3) := (hb2.trans (hb3.mono hb2.size)).setCell (p := ⟨w.heap.size, 3, none⟩) (by rw [hVz]; exact Nat.le_refl _) v3
 have h4 := hV.later hb4
 have hx4 := heap_setCell_same w3 w.heap.size 3 _ _ v3 hx3
 obtain ⟨KA, kc, hv, _, _⟩ := qbd ho3
 have hds : ((xs.drop f).map (·.1)).length = n := by rw [List.length_map, List.length_drop, hl]
 refine ⟨KA, kc, hv, qaa _ w.heap.size 3 _ _ _ hx3, qac hx3 3, h4, hfx, hfew, hVb.trans (hb4.mono (by omega)), by rw [<- hv]; exact hx4, hds, hs, ?_⟩
 by_cases h0 : n = 0
 . left
   exact List.eq_nil_of_length_eq_zero (hds.trans h0)
 . right
   have hob : v3.ownBlock = some w2.heap.size := by
     rcases hat3 with e | e
     . exfalso
       apply h0
       rw [<- hnil, hv]
       rw [hv] at e
       cases KA with
       | none =>
         obtain ⟨_, ⟨h9, _⟩ | ⟨g9, cp9, cur9, h9, _⟩⟩ := ho3
         . rw [hv] at h9; exact h9
         . rw [hv] at h9; cases h9
       | some a => cases e
     . exact e
   have hKA : KA = some ⟨w2.heap.size, 0, none⟩ := by
     obtain ⟨_, ⟨h9, h8⟩ | ⟨g9, cp9, cur9, h9, _⟩⟩ := ho3
     . exact absurd h8 h0
     . rw [h9] at hob
       injection hob with hob
       rw [hv] at h9
       injection h9 with h9 _ _
       rw [h9]
       change g9 = w2.heap.size at hob
       rw [hob]
   refine ⟨w2.heap.size, 0, hKA, qop (b := w2.heap.size) ?_ (xs.drop f) 0 (fun x hx => h4.tms x (List.mem_of_mem_drop hx)) fun i u hu => ?_⟩
   . obtain ⟨cur, hc, _⟩ := qcc ho3 hob
     have hne : w2.heap.size ≠ w.heap.size := by omega
     have hz2 := hb2.size
     refine ⟨⟨⟨_, (Below.heap_setCell w3 ⟨w.heap.size, 3, none⟩ v3 _ hne).trans hc, rfl⟩, by omega, fun e => ?_, fun e => ?_, fun e => ?_⟩, hV.free hz2⟩
     . have := (hV.pAt e).2; omega
     . have := (hV.nAt e).2; omega
     . have := (hV.tAt e).2; omega
   . have hc := ho3.cells hob i u hu
     rw [qdH, Nat.zero_add] at hc
     rw [Nat.zero_add]
     have hne : w2.heap.size ≠ w.heap.size := by omega
     exact (World.cell?_of_block (a := ⟨w2.heap.size, i, none⟩) (Below.heap_setCell w3 ⟨w.heap.size, 3, none⟩ v3 _ hne)).trans hc
end
end Go.Proofs.YtjnfhebbphdchaaGreatDoor.Pa
namespace Go.Proofs.YtjnfhebbphdchaaGreatDoor.Pa
open Go.RowKit Go.Shelf Go.Tm Go.Lx
attribute [local go_sem] Oper.semAt_some
variable [Inhabited PE]
theorem qov (base bm : Nat) (A : Option Addr) (c : Nat) (ts : List Tok) (σ : PS) (kd num : Int) (s : ByteArray) (n : Nat) (w : World) (h : Rep w base bm A c ts σ) (hm : σ.made < 10000) (hn : n <= σ.terms.length) (hs : s.size <= 9223372036854775807) :
   Calls Tryz.prog 187 #[.pointer (some ⟨bm, 0, none⟩), .agg #[.int .i64 kd, .string s, .int .i64 num, .slice none 0 0], .int .i64 n] w fun e w' => e = .returned (.tuple #[]) /\ Rep w' base bm A c ts { σ with made := σ.made + 1, terms := σ.terms.take (σ.terms.length - n) ++ [.node kd s num (σ.terms.drop (σ.terms.length - n))] } /\ Below bm w w' := by
 obtain ⟨k, pl, nm, tm, vs, xs, h0⟩ := h
 have hbm := h0.lt
 have hV := h0.count (by omega)
 have hx1 : (w.alloc (.cells #[.int .i64 kd, .string s, .int .i64 num, .slice none 0 0] 26)).heap[w.heap.size]? = some (.cells #[.int .i64 kd, .string s, .int .i64 num, .slice none 0 0] 26 (0, 0)) := World.alloc_heap_new w _
 have ek : ((σ.made + 1 : Nat) : Int) = (σ.made : Int) + 1 := by omega
 rw [ek] at hV
 obtain ⟨w1, hw1⟩ : ∃ w1, w.alloc (.cells #[.int .i64 kd, .string s, .int .i64 num, .slice none 0 0] 26) = w1 := ⟨_, rfl⟩
 obtain ⟨w2, hw2⟩ : ∃ w2, w1.setCell ⟨bm, 5, none⟩ (.int .i64 ((σ.made : Int) + 1)) = w2 := ⟨_, rfl⟩
 have hb2 := qkL hw1 hw2 hbm h0.rdr.box
 have hVz : (w.setCell ⟨bm, 5, none⟩ (.int .i64 ((σ.made : Int) + 1))).heap.size = w.heap.size := by simp
 have hVb : Below bm w (w.setCell ⟨bm, 5, none⟩ (.int .i64 ((σ.made : Int) + 1))) := (Below.refl _ _).setCell (p := ⟨bm, 5, none⟩) (Nat.le_refl _) _
 obtain ⟨V, hVe⟩ : ∃ V, w.setCell ⟨bm, 5, none⟩ (.int .i64 ((σ.made : Int) + 1)) = V := ⟨_, rfl⟩
 rw [hVe] at hV hb2 hVz hVb
 rw [hw1] at hx1
 have h1 := h0.later (X.qab w (.cells #[.int .i64 kd, .string s, .int .i64 num, .slice none 0 0] 26))
 rw [hw1] at h1
 have h2 := hV.later hb2
 have hx2 := (Below.heap_setCell w1 ⟨bm, 5, none⟩ (.int .i64 ((σ.made : Int) + 1)) w.heap.size (by show w.heap.size ≠ bm; omega)).trans hx1
 rw [hw2] at hx2
 have p5 : w1.cell? ⟨bm, 5, none⟩ = some (.int .i64 σ.made) := qaa _ bm 5 _ _ _ h1.rdr.box
 have f5 : w1.frozen? ⟨bm, 5, none⟩ = false := qac h1.rdr.box 5
 have q5 : w2.cell? ⟨bm, 5, none⟩ = some (.int .i64 ((σ.made : Int) + 1)) := by
   have := qaa _ bm 5 _ _ _ h2.rdr.box
   rw [show (({ σ with made := σ.made + 1 } : PS).made : Int) = (σ.made : Int) + 1 from ek] at this
   exact this
 have t3 : w2.cell? ⟨w.heap.size, 3, none⟩ = some (.slice none 0 0) := qaa _ w.heap.size 3 _ _ _ hx2
 have tf3 : w2.frozen? ⟨w.heap.size, 3, none⟩ = false := qac hx2 3
 have g1 : ¬ (10000 : Int) < (σ.made : Int) := by omega
 have g2 : ¬ (10000 : Int) < (σ.made : Int) + 1 := by omega
 have g3 : (σ.made : Int) <= 20000 := by omega
 have hLt : xs.length = σ.terms.length := h2.tlen
 obtain ⟨f, hf⟩ : ∃ f, xs.length - n = f := ⟨_, rfl⟩
 obtain ⟨i0, hi, hz0, hz1, hz2⟩ := qrV
 have hfew : σ.terms.length <= σ.made := h0.few
 have hfl : (xs.length : Int) - (n : Int) = (f : Int) := by omega
 have hlm : (xs.length : Int) <= 20000 := by omega
 have hfx : f <= xs.length := by omega
 have hwb : ¬ w.heap.size = bm := by omega
 have hds : ((xs.drop f).map (·.1)).length = n := by rw [List.length_map, List.length_drop]; omega
 have hgoal : σ.terms.length - n = f := by omega
 rw [hgoal]
 have h1' := hid h1
 have h2' := hid h2
 have hb2' := hid hb2
 have hV' := hid hV
 have hx2' := hid hx2
 have hVb' := hid hVb
 have ek' := hid ek
 have hds' := hid hds
 have hVz' := hid hVz
 have hVe' := hid hVe
 have hLt' := hid hLt
 have hz0' := hid hz0
 have hz1' := hid hz1
 have hz2' := hid hz2
 have hi' := hid hi
 have hfc' := hid hf
 have hgoal' := hid hgoal
 have htown := h2.town
 have htms := hid h2.tms
 clear h1 h2 hb2 hV hx1 hx2 hVb ek hds hVz hVe hLt hz0 hz1 hz2 hi hf hgoal
 rcases id htown.2 with ⟨htm, hL0⟩ | ⟨g, cap, cur, htm, hgb, hgc, hlc, hcm, hcs, hct⟩
 . subst htm
   have hx0 : n = 0 := by have := hLt'.out; omega
   subst hx0
   obtain rfl : f = 0 := by have := hfc'.out; omega
   have q4 : w2.cell? ⟨bm, 4, none⟩ = some (.slice none 0 0) := qaa _ bm 4 _ _ _ h2'.out.rdr.box
   obtain ⟨w4, hw4⟩ : ∃ w4, w2.setCell ⟨w.heap.size, 3, none⟩ (.slice none 0 0) = w4 := ⟨_, rfl⟩
   have hW4 : w2.setCell ⟨w.heap.size, 3, none⟩ (.slice none 0 0) = w4 := hw4
   have hx4 : w4.heap[w.heap.size]? = some (.cells #[.int .i64 kd, .string s, .int .i64 num, .slice none 0 0] 26 (0, 0)) := by
     rw [<- hW4]; exact heap_setCell_same w2 w.heap.size 3 _ _ (.slice none 0 0) hx2'.out
   have hb4 : Below V.heap.size V w4 := by
     rw [<- hW4]; exact hb2'.out.setCell (p := ⟨w.heap.size, 3, none⟩) (by rw [hVz'.out]; exact Nat.le_refl _) _
   have hd0 : xs.drop 0 = [] := List.drop_eq_nil_of_le (by have := hfc'.out; omega)
   have hK4 : K4 w V base bm A c ts { σ with made := σ.made + 1 } k pl nm (.slice none 0 0) vs xs 0 kd num s none 0 0 w4 := by
     refine ⟨hV'.out.later hb4, hfx, ?_, hVb'.out.trans (hb4.mono (by rw [hVz'.out]; omega)), hx4, by rw [hd0]; rfl, ⟨hs, .inl (by rw [hd0]; rfl)⟩⟩
     show 0 + 1 <= σ.made + 1
     have := hLt'.out; omega
   have hK4 := hid hK4
   clear hx4 hb4 hd0
   have hLL := hid hL0
   clear htown hL0 hfl hW4
   go_enter Tryz.func187, Tryz.ntmps187
   go_wp2_with fail
   have hL0x : xs.length = 0 := hLL.out
   have hown4 : w4.ownsRow (bm + 1) 26 4 (.slice none 0 0) 0 ((xs.take 0).flatMap tmC) := by
     have h9 := hK4.out.st.town
     have h8 := qgN (A := none) (c := 0) (n := xs.length) (by rw [hL0x] at h9 ⊢; exact h9) hfx
     rwa [qiy] at h8
   have hX6 := (Below.refl w4.heap.size w4).drew.alloc (by simp) (.cells #[.int .i64 kd, .string s, .int .i64 num, .slice none 0 0] 26)
   have hx6 : (w4.drew.alloc (.cells #[.int .i64 kd, .string s, .int .i64 num, .slice none 0 0] 26)).heap[w4.heap.size]? = some (.cells #[.int .i64 kd, .string s, .int .i64 num, .slice none 0 0] 26 (0, 0)) := World.alloc_heap_new w4.drew _
   have hz6 : (w4.drew.alloc (.cells #[.int .i64 kd, .string s, .int .i64 num, .slice none 0 0] 26)).heap.size = w4.heap.size + 1 := by simp
   obtain ⟨X6, hX6e⟩ : ∃ X, w4.drew.alloc (.cells #[.int .i64 kd, .string s, .int .i64 num, .slice none 0 0] 26) = X := ⟨_, rfl⟩
   rw [hX6e] at hX6 hx6 hz6
   have hown6 := qal hown4 (W' := X6) fun q e => hX6.block q (by obtain ⟨_, h9, _⟩ := qcc hown4 e; exact World.lt_of_get h9)
   have hb4 := hK4.out.st.rdr.box
   have hb6 := (hX6.block bm (World.lt_of_get hb4)).trans hb4
   have hx4 := hK4.out.box
   have hx46 := (hX6.block w.heap.size (World.lt_of_get hx4)).trans hx4
   have r0 : w4.drew.cell? ⟨bm, 4, none⟩ = some (.slice none 0 0) := qaa w4 bm 4 _ _ _ hb4
   have r1 : X6.cell? ⟨bm, 4, none⟩ = some (.slice none 0 0) := qaa X6 bm 4 _ _ _ hb6
   have a0 : w4.drew.cell? ⟨w.heap.size, 0, none⟩ = some (.int .i64 kd) := qaa w4 w.heap.size 0 _ _ _ hx4
   have a1 : w4.drew.cell? ⟨w.heap.size, 1, none⟩ = some (.string s) := qaa w4 w.heap.size 1 _ _ _ hx4
   have a2 : w4.drew.cell? ⟨w.heap.size, 2, none⟩ = some (.int .i64 num) := qaa w4 w.heap.size 2 _ _ _ hx4
   have a3 : w4.drew.cell? ⟨w.heap.size, 3, none⟩ = some (.slice none 0 0) := qaa w4 w.heap.size 3 _ _ _ hx4
   have hbz : bm + 1 <= X6.heap.size := by have := World.lt_of_get hb4; omega
   have hX6' := hid hX6
   have hx6' := hid hx6
   have hz6' := hid hz6
   have hown6' := hid hown6
   have hfl2 : Hid (0 <= 10000) := by show _ <= _; have h8 : 0 + 1 <= σ.made + 1 := hK4.out.few; omega
   have hff : Hid (((xs.drop 0).map (·.1)).length = 0) := hK4.out.len
   clear hown4 hX6 hx6 hz6 hown6 hb4 hb6 hx4 hx46 q5 p5 f5 t3 tf3
   go_region_law (first
     | (refine qaO rfl (.tmp 46) (.tmp 48) 24 rfl (bm + 1) 26 i0 (.agg #[.int .i64 0, .string ⟨#[]⟩, .int .i64 0, .slice none 0 0]) 4 56 Tryz.underlying24 hi'.out hz0'.out hz1'.out hz2'.out rfl (by decide) (.slice none 0 0) 0 ((xs.take 0).flatMap tmC) (by go_simp) hown6'.out ⟨w4.heap.size, 0, none⟩ 1 1 [.int .i64 kd, .string s, .int .i64 num, .slice none 0 0] (by go_simp) rfl (qkM hx6'.out) qiz (by unfold maxLen; have := hfl2.out; omega) (by have := hfl2.out; omega) hbz ?_
        intro v7 w7 ho7 hg7 hat7
        have hend := hK4.out.done (tm' := v7) hX6'.out hg7 (by rw [qkN hff.out]; exact ho7) hat7
        obtain ⟨A7, c7, rfl, _, _⟩ := qbd ho7
        obtain ⟨p7, f7, hE7⟩ := hend
        replace hE7 := hid hE7
        clear ho7 hg7 hat7))
   all_goals
     go_wp2_with fail
     go_end0
     exact ⟨rfl, hE7.out⟩
 . subst htm
   by_cases hfc : f = cap
   . have hn0 : n = 0 := by have := hLt'.out; omega
     subst hn0
     obtain rfl : cap = xs.length := by omega
     obtain rfl : f = xs.length := by omega
     have q4 : w2.cell? ⟨bm, 4, none⟩ = some (.slice (some ⟨g, 0, none⟩) xs.length xs.length) := qaa _ bm 4 _ _ _ h2'.out.rdr.box
     obtain ⟨w4, hw4⟩ : ∃ w4, w2.setCell ⟨w.heap.size, 3, none⟩ (.slice none 0 0) = w4 := ⟨_, rfl⟩
     have hW4 : w2.setCell ⟨w.heap.size, 3, none⟩ (.slice none 0 0) = w4 := hw4
     have hx4 : w4.heap[w.heap.size]? = some (.cells #[.int .i64 kd, .string s, .int .i64 num, .slice none 0 0] 26 (0, 0)) := by
       rw [<- hW4]; exact heap_setCell_same w2 w.heap.size 3 _ _ (.slice none 0 0) hx2'.out
     have hb4 : Below V.heap.size V w4 := by
       rw [<- hW4]; exact hb2'.out.setCell (p := ⟨w.heap.size, 3, none⟩) (by rw [hVz'.out]; exact Nat.le_refl _) _
     have hd0 : xs.drop xs.length = [] := List.drop_eq_nil_of_le (by have := hfc'.out; omega)
     have hK4 : K4 w V base bm A c ts { σ with made := σ.made + 1 } k pl nm (.slice (some ⟨g, 0, none⟩) xs.length xs.length) vs xs xs.length kd num s none 0 0 w4 := by
       refine ⟨hV'.out.later hb4, hfx, ?_, hVb'.out.trans (hb4.mono (by rw [hVz'.out]; omega)), hx4, by rw [hd0]; rfl, ⟨hs, .inl (by rw [hd0]; rfl)⟩⟩
       show xs.length + 1 <= σ.made + 1
       have := hLt'.out; omega
     have hK4 := hid hK4
     clear hx4 hb4 hd0
     have hl0 : (xs.length : Int) <= (xs.length : Int) := Int.le_refl _
     clear htown hfl hW4
     go_enter Tryz.func187, Tryz.ntmps187
     go_wp2_with fail
     have hown4 : w4.ownsRow (bm + 1) 26 4 (.slice (some ⟨g, 0, none⟩) xs.length xs.length) xs.length ((xs.take xs.length).flatMap tmC) := by
       have h9 := hK4.out.st.town
       have h8 := qgN (A := some ⟨g, 0, none⟩) (c := xs.length) h9 hfx
       rwa [qiy] at h8
     have hX6 := (Below.refl w4.heap.size w4).drew.alloc (by simp) (.cells #[.int .i64 kd, .string s, .int .i64 num, .slice none 0 0] 26)
     have hx6 : (w4.drew.alloc (.cells #[.int .i64 kd, .string s, .int .i64 num, .slice none 0 0] 26)).heap[w4.heap.size]? = some (.cells #[.int .i64 kd, .string s, .int .i64 num, .slice none 0 0] 26 (0, 0)) := World.alloc_heap_new w4.drew _
     have hz6 : (w4.drew.alloc (.cells #[.int .i64 kd, .string s, .int .i64 num, .slice none 0 0] 26)).heap.size = w4.heap.size + 1 := by simp
     obtain ⟨X6, hX6e⟩ : ∃ X, w4.drew.alloc (.cells #[.int .i64 kd, .string s, .int .i64 num, .slice none 0 0] 26) = X := ⟨_, rfl⟩
     rw [hX6e] at hX6 hx6 hz6
     have hown6 := qal hown4 (W' := X6) fun q e => hX6.block q (by obtain ⟨_, h9, _⟩ := qcc hown4 e; exact World.lt_of_get h9)
     have hb4 := hK4.out.st.rdr.box
     have hb6 := (hX6.block bm (World.lt_of_get hb4)).trans hb4
     have hx4 := hK4.out.box
     have hx46 := (hX6.block w.heap.size (World.lt_of_get hx4)).trans hx4
     have r0 : w4.drew.cell? ⟨bm, 4, none⟩ = some (.slice (some ⟨g, 0, none⟩) xs.length xs.length) := qaa w4 bm 4 _ _ _ hb4
     have r1 : X6.cell? ⟨bm, 4, none⟩ = some (.slice (some ⟨g, 0, none⟩) xs.length xs.length) := qaa X6 bm 4 _ _ _ hb6
     have a0 : w4.drew.cell? ⟨w.heap.size, 0, none⟩ = some (.int .i64 kd) := qaa w4 w.heap.size 0 _ _ _ hx4
     have a1 : w4.drew.cell? ⟨w.heap.size, 1, none⟩ = some (.string s) := qaa w4 w.heap.size 1 _ _ _ hx4
     have a2 : w4.drew.cell? ⟨w.heap.size, 2, none⟩ = some (.int .i64 num) := qaa w4 w.heap.size 2 _ _ _ hx4
     have a3 : w4.drew.cell? ⟨w.heap.size, 3, none⟩ = some (.slice none 0 0) := qaa w4 w.heap.size 3 _ _ _ hx4
     have hbz : bm + 1 <= X6.heap.size := by have := World.lt_of_get hb4; omega
     have hX6' := hid hX6
     have hx6' := hid hx6
     have hz6' := hid hz6
     have hown6' := hid hown6
     have hfl2 : Hid (xs.length <= 10000) := by show _ <= _; have h8 : xs.length + 1 <= σ.made + 1 := hK4.out.few; omega
     have hff : Hid (((xs.drop xs.length).map (·.1)).length = 0) := hK4.out.len
     clear hown4 hX6 hx6 hz6 hown6 hb4 hb6 hx4 hx46 q5 p5 f5 t3 tf3
     go_region_law (first
       | (refine qaO rfl (.tmp 46) (.tmp 48) 24 rfl (bm + 1) 26 i0 (.agg #[.int .i64 0, .string ⟨#[]⟩, .int .i64 0, .slice none 0 0]) 4 56 Tryz.underlying24 hi'.out hz0'.out hz1'.out hz2'.out rfl (by decide) (.slice (some ⟨g, 0, none⟩) xs.length xs.length) xs.length ((xs.take xs.length).flatMap tmC) (by go_simp) hown6'.out ⟨w4.heap.size, 0, none⟩ 1 1 [.int .i64 kd, .string s, .int .i64 num, .slice none 0 0] (by go_simp) rfl (qkM hx6'.out) qiz (by unfold maxLen; have := hfl2.out; omega) (by have := hfl2.out; omega) hbz ?_
          intro v7 w7 ho7 hg7 hat7
          have hend := hK4.out.done (tm' := v7) hX6'.out hg7 (by rw [qkN hff.out]; exact ho7) hat7
          obtain ⟨A7, c7, rfl, _, _⟩ := qbd ho7
          obtain ⟨p7, f7, hE7⟩ := hend
          replace hE7 := hid hE7
          clear ho7 hg7 hat7))
     all_goals
       go_wp2_with fail
       go_end0
       exact ⟨rfl, hE7.out⟩
   . have q4 : w2.cell? ⟨bm, 4, none⟩ = some (.slice (some ⟨g, 0, none⟩) xs.length cap) := qaa _ bm 4 _ _ _ h2'.out.rdr.box
     have hfi : (f : Int) <= (xs.length : Int) := by omega
     have hff : (xs.length : Int) <= (cap : Int) := by omega
     have hfcp : (f : Int) <= (cap : Int) := by omega
     have e7 : xs.length - f = n := by omega
     have e8 : ¬ f = cap := hfc
     have hd7 : ((xs.drop f).flatMap tmC).length = n * 4 := by rw [qek, List.length_drop, e7]
     have hcur : Hid (∀ j u, ((xs.drop f).flatMap tmC)[j]? = some u -> w2.cell? ((⟨g, f * 4, none⟩ : Addr).add j) = some u) := fun j u hj => by
       rw [qdH, qjl hgc]
       rw [qqt, <- hct] at hj
       rw [List.getElem?_take] at hj
       split at hj
       . rwa [Array.getElem?_toList] at hj
       . cases hj
     have hn2 : Hid (n <= 20000) := by show _ <= _; omega
     have hbz2 : Hid (bm + 1 <= w2.heap.size) := by show _ <= _; have := h2'.out.lt; omega
     have hfm : Hid (f + 1 <= σ.made + 1) := by show _ <= _; have := hLt'.out; omega
     clear htown
     go_enter Tryz.func187, Tryz.ntmps187
     go_wp2_with (at_builtin; refine wpList_append_own_at _ rfl _ _ 24 rfl (bm + 1) 26 i0 (.agg #[.int .i64 0, .string ⟨#[]⟩, .int .i64 0, .slice none 0 0]) 4 56 Tryz.underlying24 hi'.out hz0'.out hz1'.out hz2'.out rfl (by decide) (.slice none 0 0) 0 [] rfl (World.ownsRow_nil _ _ _ _) ⟨g, f * 4, none⟩ n (cap - f) ((xs.drop f).flatMap tmC) rfl hd7 hcur.out qrW ?c4 ?c5 ?c6 ?_)
     case c4 => unfold maxLen; have := hn2.out; omega
     case c5 => have := hn2.out; omega
     case c6 => exact hbz2.out
     . intro v3 w3 ho3 hg3 hnil3 hat3
       try simp only [Nat.zero_add] at ho3
       try simp only [true_and] at hnil3
       obtain ⟨KA, kc, rfl, u3, uf3, hK4x⟩ := K4.make (kd := kd) (num := num) (s := s) hV'.out hVz'.out hVb'.out hb2'.out hx2'.out hfx hfm.out e7 hs ho3 hg3 hnil3 hat3
       obtain ⟨w4, hw4⟩ : ∃ w4, w3.setCell ⟨w.heap.size, 3, none⟩ (.slice KA n kc) = w4 := ⟨_, rfl⟩
       rw [hw4] at hK4x
       have hK4 := hid hK4x
       clear hK4x ho3 hg3 hnil3 hat3
       go_wp2_with fail
       have hown4 : w4.ownsRow (bm + 1) 26 4 (.slice (some ⟨g, 0, none⟩) f cap) f ((xs.take f).flatMap tmC) := by
         have h9 := hK4.out.st.town
         have h8 := qgN (A := some ⟨g, 0, none⟩) (c := cap) h9 hfx
         rwa [qiy] at h8
       have hX6 := (Below.refl w4.heap.size w4).drew.alloc (by simp) (.cells #[.int .i64 kd, .string s, .int .i64 num, .slice KA n kc] 26)
       have hx6 : (w4.drew.alloc (.cells #[.int .i64 kd, .string s, .int .i64 num, .slice KA n kc] 26)).heap[w4.heap.size]? = some (.cells #[.int .i64 kd, .string s, .int .i64 num, .slice KA n kc] 26 (0, 0)) := World.alloc_heap_new w4.drew _
       have hz6 : (w4.drew.alloc (.cells #[.int .i64 kd, .string s, .int .i64 num, .slice KA n kc] 26)).heap.size = w4.heap.size + 1 := by simp
       obtain ⟨X6, hX6e⟩ : ∃ X, w4.drew.alloc (.cells #[.int .i64 kd, .string s, .int .i64 num, .slice KA n kc] 26) = X := ⟨_, rfl⟩
       rw [hX6e] at hX6 hx6 hz6
       have hown6 := qal hown4 (W' := X6) fun q e => hX6.block q (by obtain ⟨_, h9, _⟩ := qcc hown4 e; exact World.lt_of_get h9)
       have hb4 := hK4.out.st.rdr.box
       have hb6 := (hX6.block bm (World.lt_of_get hb4)).trans hb4
       have hx4 := hK4.out.box
       have hx46 := (hX6.block w.heap.size (World.lt_of_get hx4)).trans hx4
       have r0 : w4.drew.cell? ⟨bm, 4, none⟩ = some (.slice (some ⟨g, 0, none⟩) xs.length cap) := qaa w4 bm 4 _ _ _ hb4
       have r1 : X6.cell? ⟨bm, 4, none⟩ = some (.slice (some ⟨g, 0, none⟩) xs.length cap) := qaa X6 bm 4 _ _ _ hb6
       have a0 : w4.drew.cell? ⟨w.heap.size, 0, none⟩ = some (.int .i64 kd) := qaa w4 w.heap.size 0 _ _ _ hx4
       have a1 : w4.drew.cell? ⟨w.heap.size, 1, none⟩ = some (.string s) := qaa w4 w.heap.size 1 _ _ _ hx4
       have a2 : w4.drew.cell? ⟨w.heap.size, 2, none⟩ = some (.int .i64 num) := qaa w4 w.heap.size 2 _ _ _ hx4
       have a3 : w4.drew.cell? ⟨w.heap.size, 3, none⟩ = some (.slice KA n kc) := qaa w4 w.heap.size 3 _ _ _ hx4
       have hbz : bm + 1 <= X6.heap.size := by have := World.lt_of_get hb4; omega
       have hX6' := hid hX6
       have hx6' := hid hx6
       have hz6' := hid hz6
       have hown6' := hid hown6
       have hfl2 : Hid (f <= 10000) := by show _ <= _; have h8 : f + 1 <= σ.made + 1 := hK4.out.few; omega
       have hff : Hid (((xs.drop f).map (·.1)).length = n) := hK4.out.len
       clear hown4 hX6 hx6 hz6 hown6 hb4 hb6 hx4 hx46 q5 p5 f5 t3 tf3
       go_region_law (first
         | (refine qaO rfl (.tmp 46) (.tmp 48) 24 rfl (bm + 1) 26 i0 (.agg #[.int .i64 0, .string ⟨#[]⟩, .int .i64 0, .slice none 0 0]) 4 56 Tryz.underlying24 hi'.out hz0'.out hz1'.out hz2'.out rfl (by decide) (.slice (some ⟨g, 0, none⟩) f cap) f ((xs.take f).flatMap tmC) (by go_simp) hown6'.out ⟨w4.heap.size, 0, none⟩ 1 1 [.int .i64 kd, .string s, .int .i64 num, .slice KA n kc] (by go_simp) rfl (qkM hx6'.out) qiz (by unfold maxLen; have := hfl2.out; omega) (by have := hfl2.out; omega) hbz ?_
            intro v7 w7 ho7 hg7 hat7
            have hend := hK4.out.done (tm' := v7) hX6'.out hg7 (by rw [qkN hff.out]; exact ho7) hat7
            obtain ⟨A7, c7, rfl, _, _⟩ := qbd ho7
            obtain ⟨p7, f7, hE7⟩ := hend
            replace hE7 := hid hE7
            clear ho7 hg7 hat7))
       all_goals
         go_wp2_with fail
         go_end0
         exact ⟨rfl, hE7.out⟩
end Go.Proofs.YtjnfhebbphdchaaGreatDoor.Pa
namespace Go.Proofs.YtjnfhebbphdchaaGreatDoor.Pa
open Go.RowKit Go.Shelf Go.Tm Go.Lx
theorem qgR (a n : Int) (s : ByteArray) (W : World) : (Instr.field 118 (.agg #[.int .i64 a, .string s, .int .i64 n]) 2).run Tryz.prog W = .ok (.int .i64 n) W := by kernel_rfl
attribute [local go_sem] Oper.semAt_some qbT qgR
theorem qiA (l : List UInt8) : (txB l).size = l.length := by
 show l.toArray.size = l.length; simp
variable [Inhabited PE]
section
variable {w : World} {base bm : Nat} {A : Option Addr} {c : Nat} {ts : List Tok} {σ : PS}
theorem qdh (h : Rep w base bm A c ts σ) (hs : X.Short ts) : (qaf σ.rest).text.length <= 140737488355328 := by
 obtain ⟨k, pl, nm, tm, vs, xs, h1⟩ := h
 rw [h1.rest, qbs]
 exact hs k
theorem qeM (h : Rep w base bm A c ts σ) (kd num : Int) (s : ByteArray) (n : Nat) (hn : σ.made <= 10000 -> n <= σ.terms.length) (hs : s.size <= 9223372036854775807) :
   Calls Tryz.prog 187 #[.pointer (some ⟨bm, 0, none⟩), .agg #[.int .i64 kd, .string s, .int .i64 num, .slice none 0 0], .int .i64 n] w fun e w' => Res base bm A c ts (keepP σ kd s num n) e w' /\ Below bm w w' := by
 unfold keepP
 by_cases h1 : 10000 < σ.made
 . rw [if_pos h1]
   exact (qot base bm A c ts σ kd num s n w h h1).mono fun e w' ⟨q1, q2, q3⟩ => ⟨⟨q1, q2⟩, q3.mono (Nat.le_of_lt h.lt)⟩
 . rw [if_neg h1]
   by_cases h2 : 10000 < σ.made + 1
   . rw [if_pos h2]
     exact (qou base bm A c ts σ kd num s n w h (by omega)).mono fun e w' ⟨q1, q2, q3⟩ => ⟨⟨q1, q2⟩, q3⟩
   . rw [if_neg h2]
     exact (qov base bm A c ts σ kd num s n w h (by omega) (hn (by omega)) hs).mono fun e w' ⟨q1, q2, q3⟩ => ⟨⟨q1, q2⟩, q3⟩
theorem qqu (h : Rep w base bm A c ts σ) {s : List UInt8} (h0 : s ≠ []) (cb : Nat) (hc : w.heap[cb]? = some (.cells #[.string (txB s)] 9 (0, 0))) :
   Calls Tryz.prog 184 #[.pointer (some ⟨bm, 0, none⟩), .pointer (some ⟨cb, 0, none⟩)] w fun e w' => Res base bm A c ts (stepP σ (.word s)) e w' /\ Below bm w w' := by
 show Calls _ _ _ _ fun e w' => Res base bm A c ts (wordP s σ) e w' /\ Below bm w w'
 unfold wordP
 have hlt := h.lt
 obtain ⟨k, pl, nm, tm, vs, xs, h1⟩ := h
 by_cases hq : (qaf σ.rest).text = s
 . rw [if_pos hq]
   have hq2 := hq
   rw [h1.rest, qbs] at hq2
   exact (qqf base bm cb A c ts k pl nm tm σ.made s w h1.rdr hc hq2 h0).mono fun e w' ⟨q1, q2, q3⟩ => ⟨⟨q1, k + 1, pl, nm, tm, vs, xs, h1.take q3 q2⟩, q3.below hlt⟩
 . rw [if_neg hq]
   have hq2 := hq
   rw [h1.rest, qbs] at hq2
   exact (qrQ base bm cb A c ts k pl nm tm σ.made s w h1.rdr hc hq2).mono fun e w' ⟨q1, q2⟩ => ⟨⟨q1, k, pl, nm, tm, vs, xs, h1.later q2⟩, q2.mono (Nat.le_of_lt hlt)⟩
end
theorem Res.ways {base bm : Nat} {A : Option Addr} {c : Nat} {ts : List Tok} {o : Out} {e : Ending} {w : World} (h : Res base bm A c ts o e w) : e = .returned (.tuple #[]) ∨ ∃ n, e = qhH n := by
 cases o with
 | ok τ => exact .inl h.1
 | bad τ n => exact .inr ⟨n, h.1⟩
theorem qmQ (base bm : Nat) (A : Option Addr) (c : Nat) (ts : List Tok) (σ : PS) (w : World) (h : Rep w base bm A c ts σ) (hs : X.Short ts) (hk : (qaf σ.rest).kind = 2) :
   Calls Tryz.prog 188 #[.pointer (some ⟨bm, 0, none⟩)] w fun e w' => Res base bm A c ts (keepP { σ with rest := σ.rest.tail } 1 ⟨#[]⟩ (qaf σ.rest).num 0) e w' /\ Below bm w w' := by
 have ka := qaz h
 have hlt := h.lt
 have hsh := qdh h hs
 have kt := fun W (hb : Below w.heap.size w W) => qlK (h.later hb) 2 (by decide) hk
 have kk := hid (fun W (hr : Rep W base bm A c ts { σ with rest := σ.rest.tail }) => qeM hr 1 (qaf σ.rest).num ⟨#[]⟩ 0 (fun _ => Nat.zero_le _) (by decide))
 generalize qaf σ.rest = q at ka kt kk hk hsh ⊢
 obtain ⟨qk, qt, qn⟩ := q
 dsimp only at ka kt kk hk hsh ⊢
 have g0 : (qk == 2) = true := by simpa using hk
 replace ka := hid ka
 replace kt := hid kt
 clear h hk hsh
 go_enter Tryz.func188, Tryz.ntmps188
 go_wp2_with fail
 refine ka.out.mono ?_
 rintro e w1 ⟨rfl, hb1⟩
 have hb2 := hb1.trans ((X.qab w1 (.cells #[.int .i64 qk, .string (X.strOf qt), .int .i64 qn] 118)).mono hb1.size)
 have kt1 := hid (kt.out _ hb2)
 have hB2 := hid (hb2.mono (Nat.le_of_lt hlt))
 clear hb1 hb2 kt
 go_wp2_with fail
 refine kt1.out.mono ?_
 rintro e w2 ⟨rfl, hR, hB⟩
 have kk1 := hid (kk.out w2 hR)
 have hB3 := hid (hB2.out.trans hB)
 clear hR hB hB2 kk
 go_wp2_with fail
 refine kk1.out.mono ?_
 rintro e w3 ⟨hr, hB⟩
 have hr' := hid hr
 have hB4 := hid (hB3.out.trans hB)
 have hways := hr.ways
 clear hr hB
 rcases hways with rfl | ⟨m, rfl⟩
 . go_wp2_with fail
   go_end0
   exact ⟨hr'.out, hB4.out⟩
 . exact ⟨rfl, hr'.out, hB4.out⟩
theorem qmR (base bm : Nat) (A : Option Addr) (c : Nat) (ts : List Tok) (σ : PS) (w : World) (h : Rep w base bm A c ts σ) (hs : X.Short ts) (hk1 : (qaf σ.rest).kind ≠ 2) (hk : (qaf σ.rest).kind = 1) :
   Calls Tryz.prog 188 #[.pointer (some ⟨bm, 0, none⟩)] w fun e w' => Res base bm A c ts (keepP { σ with rest := σ.rest.tail } 2 (txB (qaf σ.rest).text) 0 0) e w' /\ Below bm w w' := by
 have ka := qaz h
 have hlt := h.lt
 have hsh := qdh h hs
 have kt := fun W (hb : Below w.heap.size w W) => qlK (h.later hb) 1 (by decide) hk
 have kk := hid (fun W (hr : Rep W base bm A c ts { σ with rest := σ.rest.tail }) => qeM hr 2 0 (txB (qaf σ.rest).text) 0 (fun _ => Nat.zero_le _) (by rw [qiA]; omega))
 generalize qaf σ.rest = q at ka kt kk hk hsh hk1 ⊢
 obtain ⟨qk, qt, qn⟩ := q
 dsimp only at ka kt kk hk hsh hk1 ⊢
 have g0 : (qk == 2) = false := by simpa using hk1
 have g1 : (qk == 1) = true := by simpa using hk
 clear hk1
 replace ka := hid ka
 replace kt := hid kt
 clear h hk hsh
 go_enter Tryz.func188, Tryz.ntmps188
 go_wp2_with fail
 refine ka.out.mono ?_
 rintro e w1 ⟨rfl, hb1⟩
 have hb2 := hb1.trans ((X.qab w1 (.cells #[.int .i64 qk, .string (X.strOf qt), .int .i64 qn] 118)).mono hb1.size)
 have kt1 := hid (kt.out _ hb2)
 have hB2 := hid (hb2.mono (Nat.le_of_lt hlt))
 clear hb1 hb2 kt
 go_wp2_with fail
 refine kt1.out.mono ?_
 rintro e w2 ⟨rfl, hR, hB⟩
 have kk1 := hid (kk.out w2 hR)
 have hB3 := hid (hB2.out.trans hB)
 clear hR hB hB2 kk
 go_wp2_with fail
 refine kk1.out.mono ?_
 rintro e w3 ⟨hr, hB⟩
 have hr' := hid hr
 have hB4 := hid (hB3.out.trans hB)
 have hways := hr.ways
 clear hr hB
 rcases hways with rfl | ⟨m, rfl⟩
 . go_wp2_with fail
   go_end0
   exact ⟨hr'.out, hB4.out⟩
 . exact ⟨rfl, hr'.out, hB4.out⟩
theorem qmS (base bm : Nat) (A : Option Addr) (c : Nat) (ts : List Tok) (σ : PS) (w : World) (h : Rep w base bm A c ts σ) (h0 : (qaf σ.rest).kind ≠ 2) (h1 : (qaf σ.rest).kind ≠ 1) (h2 : (qaf σ.rest).text ≠ [40]) (h3 : (qaf σ.rest).text ≠ [33]) :
   Calls Tryz.prog 188 #[.pointer (some ⟨bm, 0, none⟩)] w fun e w' => Res base bm A c ts (.bad σ 2) e w' /\ Below bm w w' := by
 have ka := qaz h
 have hlt := h.lt
 have kr := hid (fun W (hb : Below w.heap.size w W) => h.later hb)
 generalize qaf σ.rest = q at ka h0 h1 h2 h3
 obtain ⟨qk, qt, qn⟩ := q
 dsimp only at ka h0 h1 h2 h3
 have g0 : (qk == 2) = false := by simpa using h0
 have g1 : (qk == 1) = false := by simpa using h1
 have g2 : ((X.strOf qt).toList == [40]) = false := by rw [qah]; simpa using h2
 have g3 : ((X.strOf qt).toList == [33]) = false := by rw [qah]; simpa using h3
 replace ka := hid ka
 clear h h0 h1 h2 h3
 go_enter Tryz.func188, Tryz.ntmps188
 go_wp2_with fail
 refine ka.out.mono ?_
 rintro e w1 ⟨rfl, hb1⟩
 have hb2 := hb1.trans ((X.qab w1 (.cells #[.int .i64 qk, .string (X.strOf qt), .int .i64 qn] 118)).mono hb1.size)
 have hR := hid (kr.out _ hb2)
 have hB := hid (hb2.mono (Nat.le_of_lt hlt))
 clear hb1 hb2 kr
 go_wp2_with fail
 exact ⟨rfl, ⟨rfl, hR.out⟩, hB.out⟩
theorem qmT (base bm : Nat) (A : Option Addr) (c : Nat) (ts : List Tok) (σ : PS) (w : World) (h : Rep w base bm A c ts σ) (hp : σ.plan.length <= 1099511627776) (hs : X.Short ts) :
   Calls Tryz.prog 188 #[.pointer (some ⟨bm, 0, none⟩)] w fun e w' => Res base bm A c ts (stepP σ .simple) e w' /\ Below bm w w' := by
 rw [qbB]
 unfold qbA
 by_cases n0 : (qaf σ.rest).kind = 2
 . simp only [if_pos n0]
   exact qmQ base bm A c ts σ w h hs n0
 by_cases n1 : (qaf σ.rest).kind = 1
 . simp only [if_neg n0, if_pos n1]
   exact qmR base bm A c ts σ w h hs n0 n1
 by_cases n2 : (qaf σ.rest).text = [40]
 . simp only [if_neg n0, if_neg n1, if_pos n2]
   exact (qmO base bm A c ts σ w h hp n0 n1 n2).mono fun e w' hq => hq
 by_cases n3 : (qaf σ.rest).text = [33]
 . simp only [if_neg n0, if_neg n1, if_neg n2, if_pos n3]
   exact (qmP base bm A c ts σ w h hp n0 n1 n2 n3).mono fun e w' hq => hq
 . simp only [if_neg n0, if_neg n1, if_neg n2, if_neg n3]
   exact qmS base bm A c ts σ w h n0 n1 n2 n3
theorem qrX (base bm : Nat) (A : Option Addr) (c : Nat) (ts : List Tok) (σ : PS) (w : World) (h : Rep w base bm A c ts σ) :
   Calls Tryz.prog 100 #[.pointer (some ⟨bm, 0, none⟩)] w fun e w' => Res base bm A c ts (stepP σ .fin) e w' /\ Below bm w w' := by
 have hlt := h.lt
 rw [stepP]
 obtain ⟨k, pl, nm, tm, vs, xs, h1⟩ := h
 have p0 : w.cell? ⟨bm, 0, none⟩ = some (.slice A ts.length c) := qaa w bm 0 _ _ _ h1.rdr.box
 have p1 : w.cell? ⟨bm, 1, none⟩ = some (.int .i64 k) := qaa w bm 1 _ _ _ h1.rdr.box
 have hle := h1.rdr.le
 have kr := hid (fun W (hb : Below w.heap.size w W) => (⟨k, pl, nm, tm, vs, xs, h1.later hb⟩ : Rep W base bm A c ts σ))
 have hrest : σ.rest = [] ↔ ¬ k < ts.length := by
   rw [h1.rest, List.drop_eq_nil_iff]; omega
 clear h1
 by_cases hk : k < ts.length
 . rw [if_neg (fun e => hrest.1 e hk)]
   have hd : (k : Int) < (ts.length : Int) := by omega
   clear hrest
   go_enter Tryz.func100, Tryz.ntmps100
   go_wp2_with fail
   go_quiet (fail)
   go_wp2_with fail
   exact ⟨rfl, ⟨rfl, kr.out _ (qap (Below.refl _ w) _)⟩, qap (Below.refl _ w) _⟩
 . rw [if_pos (hrest.2 hk)]
   have hd : ¬ (k : Int) < (ts.length : Int) := by omega
   clear hrest
   go_enter Tryz.func100, Tryz.ntmps100
   go_wp2_with fail
   go_quiet (fail)
   go_wp2_with fail
   go_end0
   exact ⟨⟨rfl, kr.out _ (qap (Below.refl _ w) _)⟩, qap (Below.refl _ w) _⟩
end Go.Proofs.YtjnfhebbphdchaaGreatDoor.Pa
namespace Go.Proofs.YtjnfhebbphdchaaGreatDoor.Pa
open Go.RowKit Go.Shelf Go.Tm Go.Lx
attribute [local go_sem] Oper.semAt_some qbT qgR
theorem qgj : ∃ i, Tryz.prog.info? 9 = some i /\ i.zero = some (.string ⟨#[]⟩) /\ i.size = 1 /\ i.bytes = 16 := by
 have h9 : (Tryz.prog.info? 9).map (fun i => (i.zero, i.size, i.bytes)) = some (some (.string ⟨#[]⟩), 1, 16) := by kernel_rfl
 cases hh : Tryz.prog.info? 9 with
 | none => rw [hh] at h9; cases h9
 | some i =>
   rw [hh] at h9
   injection h9 with h9
   injection h9 with h1 h9
   injection h9 with h2 h3
   exact ⟨i, rfl, h1, h2, h3⟩
section
variable [Inhabited PE]
theorem qlM {w W9 X6 W7 : World} {base bm : Nat} {A : Option Addr} {c : Nat} {ts : List Tok} {σ : PS} {k : Nat} {pl nm tm : Value} {vs : List Value} {xs : List (Go.Tm.T × Option Addr × Nat)} {s : ByteArray} {v7 : Value}
   (h1 : St w base bm A c ts σ k pl nm tm vs xs) (hbd : Below w.heap.size w w.drew) (hT : Turn bm w.drew W9) (hR : Rdr W9 base bm A c ts (k + 1) pl nm tm σ.made) (h6 : Below W9.heap.size W9 X6) (hs : s.size <= 9223372036854775807) (hg : X6.grownBy W7 nm.ownBlock)
   (ho : W7.ownsRow (bm + 1) 9 1 v7 (σ.names.length + 1) (σ.names.map Value.string ++ [.string s])) (hat : v7.ownBlock = nm.ownBlock ∨ v7.ownBlock = some X6.heap.size) :
   W7.cell? ⟨bm, 3, none⟩ = some nm /\ W7.frozen? ⟨bm, 3, none⟩ = false /\ Rep (W7.setCell ⟨bm, 3, none⟩ v7) base bm A c ts { σ with rest := σ.rest.tail, names := σ.names ++ [s] } /\ Below bm w (W7.setCell ⟨bm, 3, none⟩ v7) := by
 have h2 := ((h1.later hbd).take hT hR).later h6
 have h3 := h2.name (s := s) hs hg ho hat
 have hbne : some bm ≠ nm.ownBlock := fun e => by have := (h2.nAt e.symm).1; omega
 have hb7 := (hg.block bm h2.lt hbne).trans h2.rdr.box
 refine ⟨qaa W7 bm 3 _ _ _ hb7, qac hb7 3, ⟨k + 1, pl, v7, tm, vs, xs, h3⟩, ?_⟩
 have h8 : Below bm X6 W7 := ⟨hg.os, hg.tape, hg.output, hg.size, fun x hx => hg.block x (by have := h2.lt; omega) fun e => by have := (h2.nAt e.symm).1; omega⟩
 have h9 : Below bm w W9 := (hbd.mono (Nat.le_of_lt h1.lt)).trans (hT.below h1.lt)
 exact h9.trans ((h6.mono (Nat.le_of_lt (World.lt_of_get hR.box))).trans (h8.setCell (p := ⟨bm, 3, none⟩) (Nat.le_refl _) _))
theorem qrY (base bm : Nat) (A : Option Addr) (c : Nat) (ts : List Tok) (σ : PS) (w : World) (h : Rep w base bm A c ts σ) (hk : (qaf σ.rest).kind ≠ 1) :
   Calls Tryz.prog 164 #[.pointer (some ⟨bm, 0, none⟩)] w fun e w' => Res base bm A c ts (.bad σ 2) e w' /\ Below bm w w' := by
 have hlt := h.lt
 have hbd : Below w.heap.size w w.drew := (Below.refl _ w).drew
 have kt := hid (qlL (h.later hbd) 1 hk)
 have kr := hid (fun W (hb : Below w.heap.size w W) => h.later hb)
 obtain ⟨k, pl, nm, tm, vs, xs, h1⟩ := h
 obtain ⟨NA, nc, rfl, _, _⟩ := qbd h1.nown
 have q0 : w.drew.cell? ⟨bm, 3, none⟩ = some (.slice NA σ.names.length nc) := qaa w bm 3 _ _ _ h1.rdr.box
 have hbd' := hid hbd
 clear h1 hbd hk
 go_enter Tryz.func164, Tryz.ntmps164
 go_wp2_with fail
 refine wp_region_held (S := fun X => X.cell? ⟨bm, 3, none⟩ = some (.slice NA σ.names.length nc)) (by kernel_rfl) ?_
 change wpAnyH _ _ _ _ _ _ _ _ w.drew
 refine wpAnyH_take (i := 0) (oi := { dst := some 2, op := Op.move (Operand.tmp 0), type := 163, pos := "grammar.go:91", after := #[], guard := none }) (v := .pointer (some ⟨bm, 0, none⟩)) rfl (by kernel_rfl) (by kernel_rfl) (by kernel_rfl) (fun _ _ _ h => h) (Or.inl ⟨by rfl, ?_⟩) q0 ?_
 . intro w hSw
   try dsimp only at hSw
   go_simp
 try simp only [Act.put, List.setIfInBounds_toArray, List.set_cons_zero, List.set_cons_succ]
 refine wpAnyH_take (i := 1) (oi := { dst := some 3, op := Op.move (Operand.tmp 0), type := 163, pos := "grammar.go:91", after := #[], guard := none }) (v := .pointer (some ⟨bm, 0, none⟩)) rfl (by kernel_rfl) (by kernel_rfl) (by kernel_rfl) (fun _ _ _ h => h) (Or.inl ⟨by rfl, ?_⟩) q0 ?_
 . intro w hSw
   try dsimp only at hSw
   go_simp
 try simp only [Act.put, List.setIfInBounds_toArray, List.set_cons_zero, List.set_cons_succ]
 refine wpAnyH_take (i := 2) (oi := { dst := some 4, op := Op.nilCheck (Operand.tmp 3), type := 0, pos := "grammar.go:91", after := #[{ on := 1, ground := Ground.data }], guard := none }) (v := .pointer (some ⟨bm, 0, none⟩)) rfl (by kernel_rfl) (by kernel_rfl) (by kernel_rfl) (fun _ _ _ h => h) (Or.inl ⟨by rfl, ?_⟩) q0 ?_
 . intro w hSw
   try dsimp only at hSw
   go_simp
 try simp only [Act.put, List.setIfInBounds_toArray, List.set_cons_zero, List.set_cons_succ]
 refine wpAnyH_take (i := 3) (oi := { dst := some 5, op := Op.fieldAddr 166 (Operand.tmp 4) 3, type := 0, pos := "grammar.go:91", after := #[{ on := 2, ground := Ground.data }], guard := none }) (v := .pointer (some ⟨bm, 3, none⟩)) rfl (by kernel_rfl) (by kernel_rfl) (by kernel_rfl) (fun _ _ _ h => h) (Or.inl ⟨by rfl, ?_⟩) q0 ?_
 . intro w hSw
   try dsimp only at hSw
   go_simp
 try simp only [Act.put, List.setIfInBounds_toArray, List.set_cons_zero, List.set_cons_succ]
 refine wpAnyH_take (i := 4) (oi := { dst := some 6, op := Op.load 94 (Operand.tmp 5), type := 94, pos := "grammar.go:91", after := #[{ on := 3, ground := Ground.data }], guard := none }) (v := .slice NA σ.names.length nc) rfl (by kernel_rfl) (by kernel_rfl) (by kernel_rfl) (fun _ _ _ h => h) (Or.inl ⟨by rfl, ?_⟩) q0 ?_
 . intro w hSw
   try dsimp only at hSw
   go_simp
 try simp only [Act.put, List.setIfInBounds_toArray, List.set_cons_zero, List.set_cons_succ]
 refine wpAnyH_take (i := 5) (oi := { dst := some 7, op := Op.move (Operand.tmp 0), type := 163, pos := "grammar.go:91", after := #[], guard := none }) (v := .pointer (some ⟨bm, 0, none⟩)) rfl (by kernel_rfl) (by kernel_rfl) (by kernel_rfl) (fun _ _ _ h => h) (Or.inl ⟨by rfl, ?_⟩) q0 ?_
 . intro w hSw
   try dsimp only at hSw
   go_simp
 try simp only [Act.put, List.setIfInBounds_toArray, List.set_cons_zero, List.set_cons_succ]
 refine wpAnyH_ready (rs := [6]) (by kernel_rfl) (by simp) ?_
 refine AllReadyH.cons (o := { dst := some 8, op := Op.call { callee := Callee.value (Operand.func 185), args := #[Operand.tmp 7, Operand.const (Value.int IntKind.i64 1)], argTypes := #[163, 3] }, type := 118, pos := "grammar.go:91", after := #[{ on := 5, ground := Ground.data }], guard := none }) rfl (fun K hK => ?_) AllReadyH.nil
 go_simp
 refine kt.out.mono ?_
 rintro e w9 ⟨rfl, hb9⟩
 have hb := hbd'.out.trans hb9
 exact ⟨rfl, ⟨rfl, kr.out _ hb⟩, hb.mono (Nat.le_of_lt hlt)⟩
theorem qqv (base bm : Nat) (A : Option Addr) (c : Nat) (ts : List Tok) (σ : PS) (w : World) (h : Rep w base bm A c ts σ) (hs : X.Short ts) (hn : σ.names.length <= 1099511627776) (hk : (qaf σ.rest).kind = 1) :
   Calls Tryz.prog 164 #[.pointer (some ⟨bm, 0, none⟩)] w fun e w' => Res base bm A c ts (.ok { σ with rest := σ.rest.tail, names := σ.names ++ [txB (qaf σ.rest).text] }) e w' /\ Below bm w w' := by
 have hlt := h.lt
 have hsh := qdh h hs
 have hbd : Below w.heap.size w w.drew := (Below.refl _ w).drew
 obtain ⟨k, pl, nm, tm, vs, xs, h1⟩ := h
 have kt := qio base bm A c ts k pl nm tm σ.made 1 w.drew (h1.later hbd).rdr (by decide) (by rw [<- qbs, <- h1.rest]; exact hk)
 rw [<- qbs, <- h1.rest, X.qdu] at kt
 generalize qaf σ.rest = q at kt hsh ⊢
 obtain ⟨qk, qt, qn⟩ := q
 dsimp only at kt hsh ⊢
 replace kt := hid kt
 have kput := hid (fun (W9 W7 : World) (v7 : Value) (hT : Turn bm w.drew W9) (hR : Rdr W9 base bm A c ts (k + 1) pl nm tm σ.made) (X6 : World) (h6 : Below W9.heap.size W9 X6) (ho : W7.ownsRow (bm + 1) 9 1 v7 (σ.names.length + 1) (σ.names.map Value.string ++ [.string (txB qt)])) (hg : X6.grownBy W7 nm.ownBlock) (hat : v7.ownBlock = nm.ownBlock ∨ v7.ownBlock = some X6.heap.size) =>
   qlM h1 hbd hT hR h6 (by rw [qiA]; omega) hg ho hat)
 have kown := hid (fun (W9 : World) (hT : Turn bm w.drew W9) (hR : Rdr W9 base bm A c ts (k + 1) pl nm tm σ.made) (X6 : World) (h6 : Below W9.heap.size W9 X6) => ((((h1.later hbd).take hT hR).later h6).nown : X6.ownsRow (bm + 1) 9 1 nm σ.names.length (σ.names.map Value.string)))
 obtain ⟨NA, nc, rfl, _, _⟩ := qbd h1.nown
 have q0 : w.drew.cell? ⟨bm, 3, none⟩ = some (.slice NA σ.names.length nc) := qaa w bm 3 _ _ _ h1.rdr.box
 obtain ⟨i0, hi, hz0, hz1, hz2⟩ := qgj
 have hi' := hid hi
 have hz0' := hid hz0
 have hz1' := hid hz1
 have hz2' := hid hz2
 have hn' := hid hn
 obtain ⟨NL, hNL⟩ : ∃ l, σ.names.map Value.string = l := ⟨_, rfl⟩
 rw [hNL] at kput kown
 clear h1 hbd hk hs hsh hi hz0 hz1 hz2 hn hNL
 have hltd : bm < w.drew.heap.size := hlt
 go_enter Tryz.func164, Tryz.ntmps164
 go_wp2_with fail
 go_region_law (first
   | (refine qaO rfl (.tmp 6) (.tmp 10) 94 rfl (bm + 1) 9 i0 (.string ⟨#[]⟩) 1 16 Tryz.underlying94 hi'.out hz0'.out hz1'.out hz2'.out rfl (by decide) (.slice NA σ.names.length nc) σ.names.length NL (by go_simp) hown6.out ⟨w9.heap.size, 0, none⟩ 1 1 [.string (X.strOf qt)] (by go_simp) rfl (qgi hx6.out) (fun u hu => by rw [List.mem_singleton.1 hu]; rfl) (by unfold maxLen; have := hn'.out; omega) (by have := hn'.out; omega) hbz.out ?_
      intro v7 w7 ho7 hg7 hat7
      have hend := kput.out w9 w7 v7 hT9.out hR9.out X6 hX6.out ho7 hg7 hat7
      obtain ⟨A7, c7, rfl, _, _⟩ := qbd ho7
      obtain ⟨p7, f7, hE7⟩ := hend
      replace hE7 := hid hE7
      clear ho7 hg7 hat7)
   | (go_simp
      go_at_call 185
      refine kt.out.mono ?_
      rintro e w9 ⟨rfl, hR, hT⟩
      have q9 : w9.cell? ⟨bm, 3, none⟩ = some (.slice NA σ.names.length nc) := qaa w9 bm 3 _ _ _ hR.box
      have hX := X.qab w9 (.cells #[.string (X.strOf qt)] 9)
      have hx := World.alloc_heap_new w9 (.cells #[.string (X.strOf qt)] 9)
      have hbz1 : bm < w9.heap.size := World.lt_of_get hR.box
      have q6x := qaa _ bm 3 _ _ _ ((hX.block bm hbz1).trans hR.box)
      have hz6 : (w9.alloc (.cells #[.string (X.strOf qt)] 9)).heap.size = w9.heap.size + 1 := World.size_alloc _ _
      obtain ⟨X6, hX6e⟩ : ∃ Y, w9.alloc (.cells #[.string (X.strOf qt)] 9) = Y := ⟨_, rfl⟩
      rw [hX6e] at hX hx q6x hz6
      have q6 : X6.cell? ⟨bm, 3, none⟩ = some (.slice NA σ.names.length nc) := q6x
      have hown6 := hid (kown.out w9 hT hR X6 hX)
      have hbz : Hid (bm + 1 <= X6.heap.size) := by show _ <= _; omega
      have hX6 := hid hX
      have hx6 := hid hx
      have hR9 := hid hR
      have hT9 := hid hT
      clear hX hx hR hT q6x hz6 hbz1 kt))
 all_goals
   go_wp2_with fail
   go_end0
   exact ⟨⟨rfl, hE7.out.1⟩, hE7.out.2⟩
theorem qbD (base bm : Nat) (A : Option Addr) (c : Nat) (ts : List Tok) (σ : PS) (w : World) (h : Rep w base bm A c ts σ) (hs : X.Short ts) (hn : σ.names.length <= 1099511627776) :
   Calls Tryz.prog 164 #[.pointer (some ⟨bm, 0, none⟩)] w fun e w' => Res base bm A c ts (stepP σ .name) e w' /\ Below bm w w' := by
 rw [stepP]
 by_cases hk : (qaf σ.rest).kind = 1
 . rw [if_pos hk]; exact qqv base bm A c ts σ w h hs hn hk
 . rw [if_neg hk]; exact qrY base bm A c ts σ w h hk
theorem qkO (base bm : Nat) (A : Option Addr) (c : Nat) (ts : List Tok) (σ : PS) (w : World) (h : Rep w base bm A c ts σ) (hk : (qaf σ.rest).kind ≠ 4) :
   Calls Tryz.prog 190 #[.pointer (some ⟨bm, 0, none⟩)] w fun e w' => Res base bm A c ts (.bad σ 2) e w' /\ Below bm w w' := by
 have hlt := h.lt
 have hbd : Below w.heap.size w w.drew := (Below.refl _ w).drew
 have kt := hid (qlL (h.later hbd) 4 hk)
 have kr := hid (fun W (hb : Below w.heap.size w W) => h.later hb)
 obtain ⟨k, pl, nm, tm, vs, xs, h1⟩ := h
 obtain ⟨NA, nc, rfl, _, _⟩ := qbd h1.nown
 have q0 : w.drew.cell? ⟨bm, 3, none⟩ = some (.slice NA σ.names.length nc) := qaa w bm 3 _ _ _ h1.rdr.box
 have hbd' := hid hbd
 clear h1 hbd hk
 go_enter Tryz.func190, Tryz.ntmps190
 go_wp2_with fail
 refine wp_region_held (S := fun X => X.cell? ⟨bm, 3, none⟩ = some (.slice NA σ.names.length nc)) (by kernel_rfl) ?_
 change wpAnyH _ _ _ _ _ _ _ _ w.drew
 refine wpAnyH_take (i := 0) (oi := { dst := some 2, op := Op.move (Operand.tmp 0), type := 163, pos := "grammar.go:96", after := #[], guard := none }) (v := .pointer (some ⟨bm, 0, none⟩)) rfl (by kernel_rfl) (by kernel_rfl) (by kernel_rfl) (fun _ _ _ h => h) (Or.inl ⟨by rfl, ?_⟩) q0 ?_
 . intro w hSw
   try dsimp only at hSw
   go_simp
 try simp only [Act.put, List.setIfInBounds_toArray, List.set_cons_zero, List.set_cons_succ]
 refine wpAnyH_take (i := 1) (oi := { dst := some 3, op := Op.move (Operand.tmp 0), type := 163, pos := "grammar.go:96", after := #[], guard := none }) (v := .pointer (some ⟨bm, 0, none⟩)) rfl (by kernel_rfl) (by kernel_rfl) (by kernel_rfl) (fun _ _ _ h => h) (Or.inl ⟨by rfl, ?_⟩) q0 ?_
 . intro w hSw
   try dsimp only at hSw
   go_simp
 try simp only [Act.put, List.setIfInBounds_toArray, List.set_cons_zero, List.set_cons_succ]
 refine wpAnyH_take (i := 2) (oi := { dst := some 4, op := Op.nilCheck (Operand.tmp 3), type := 0, pos := "grammar.go:96", after := #[{ on := 1, ground := Ground.data }], guard := none }) (v := .pointer (some ⟨bm, 0, none⟩)) rfl (by kernel_rfl) (by kernel_rfl) (by kernel_rfl) (fun _ _ _ h => h) (Or.inl ⟨by rfl, ?_⟩) q0 ?_
 . intro w hSw
   try dsimp only at hSw
   go_simp
 try simp only [Act.put, List.setIfInBounds_toArray, List.set_cons_zero, List.set_cons_succ]
 refine wpAnyH_take (i := 3) (oi := { dst := some 5, op := Op.fieldAddr 166 (Operand.tmp 4) 3, type := 0, pos := "grammar.go:96", after := #[{ on := 2, ground := Ground.data }], guard := none }) (v := .pointer (some ⟨bm, 3, none⟩)) rfl (by kernel_rfl) (by kernel_rfl) (by kernel_rfl) (fun _ _ _ h => h) (Or.inl ⟨by rfl, ?_⟩) q0 ?_
 . intro w hSw
   try dsimp only at hSw
   go_simp
 try simp only [Act.put, List.setIfInBounds_toArray, List.set_cons_zero, List.set_cons_succ]
 refine wpAnyH_take (i := 4) (oi := { dst := some 6, op := Op.load 94 (Operand.tmp 5), type := 94, pos := "grammar.go:96", after := #[{ on := 3, ground := Ground.data }], guard := none }) (v := .slice NA σ.names.length nc) rfl (by kernel_rfl) (by kernel_rfl) (by kernel_rfl) (fun _ _ _ h => h) (Or.inl ⟨by rfl, ?_⟩) q0 ?_
 . intro w hSw
   try dsimp only at hSw
   go_simp
 try simp only [Act.put, List.setIfInBounds_toArray, List.set_cons_zero, List.set_cons_succ]
 refine wpAnyH_take (i := 5) (oi := { dst := some 7, op := Op.move (Operand.tmp 0), type := 163, pos := "grammar.go:96", after := #[], guard := none }) (v := .pointer (some ⟨bm, 0, none⟩)) rfl (by kernel_rfl) (by kernel_rfl) (by kernel_rfl) (fun _ _ _ h => h) (Or.inl ⟨by rfl, ?_⟩) q0 ?_
 . intro w hSw
   try dsimp only at hSw
   go_simp
 try simp only [Act.put, List.setIfInBounds_toArray, List.set_cons_zero, List.set_cons_succ]
 refine wpAnyH_ready (rs := [6]) (by kernel_rfl) (by simp) ?_
 refine AllReadyH.cons (o := { dst := some 8, op := Op.call { callee := Callee.value (Operand.func 185), args := #[Operand.tmp 7, Operand.const (Value.int IntKind.i64 4)], argTypes := #[163, 3] }, type := 118, pos := "grammar.go:96", after := #[{ on := 5, ground := Ground.data }], guard := none }) rfl (fun K hK => ?_) AllReadyH.nil
 go_simp
 refine kt.out.mono ?_
 rintro e w9 ⟨rfl, hb9⟩
 have hb := hbd'.out.trans hb9
 exact ⟨rfl, ⟨rfl, kr.out _ hb⟩, hb.mono (Nat.le_of_lt hlt)⟩
theorem qjm (base bm : Nat) (A : Option Addr) (c : Nat) (ts : List Tok) (σ : PS) (w : World) (h : Rep w base bm A c ts σ) (hs : X.Short ts) (hn : σ.names.length <= 1099511627776) (hk : (qaf σ.rest).kind = 4) :
   Calls Tryz.prog 190 #[.pointer (some ⟨bm, 0, none⟩)] w fun e w' => Res base bm A c ts (.ok { σ with rest := σ.rest.tail, names := σ.names ++ [txB (qaf σ.rest).text] }) e w' /\ Below bm w w' := by
 have hlt := h.lt
 have hsh := qdh h hs
 have hbd : Below w.heap.size w w.drew := (Below.refl _ w).drew
 obtain ⟨k, pl, nm, tm, vs, xs, h1⟩ := h
 have kt := qio base bm A c ts k pl nm tm σ.made 4 w.drew (h1.later hbd).rdr (by decide) (by rw [<- qbs, <- h1.rest]; exact hk)
 rw [<- qbs, <- h1.rest, X.qdu] at kt
 generalize qaf σ.rest = q at kt hsh ⊢
 obtain ⟨qk, qt, qn⟩ := q
 dsimp only at kt hsh ⊢
 replace kt := hid kt
 have kput := hid (fun (W9 W7 : World) (v7 : Value) (hT : Turn bm w.drew W9) (hR : Rdr W9 base bm A c ts (k + 1) pl nm tm σ.made) (X6 : World) (h6 : Below W9.heap.size W9 X6) (ho : W7.ownsRow (bm + 1) 9 1 v7 (σ.names.length + 1) (σ.names.map Value.string ++ [.string (txB qt)])) (hg : X6.grownBy W7 nm.ownBlock) (hat : v7.ownBlock = nm.ownBlock ∨ v7.ownBlock = some X6.heap.size) =>
   qlM h1 hbd hT hR h6 (by rw [qiA]; omega) hg ho hat)
 have kown := hid (fun (W9 : World) (hT : Turn bm w.drew W9) (hR : Rdr W9 base bm A c ts (k + 1) pl nm tm σ.made) (X6 : World) (h6 : Below W9.heap.size W9 X6) => ((((h1.later hbd).take hT hR).later h6).nown : X6.ownsRow (bm + 1) 9 1 nm σ.names.length (σ.names.map Value.string)))
 obtain ⟨NA, nc, rfl, _, _⟩ := qbd h1.nown
 have q0 : w.drew.cell? ⟨bm, 3, none⟩ = some (.slice NA σ.names.length nc) := qaa w bm 3 _ _ _ h1.rdr.box
 obtain ⟨i0, hi, hz0, hz1, hz2⟩ := qgj
 have hi' := hid hi
 have hz0' := hid hz0
 have hz1' := hid hz1
 have hz2' := hid hz2
 have hn' := hid hn
 obtain ⟨NL, hNL⟩ : ∃ l, σ.names.map Value.string = l := ⟨_, rfl⟩
 rw [hNL] at kput kown
 clear h1 hbd hk hs hsh hi hz0 hz1 hz2 hn hNL
 have hltd : bm < w.drew.heap.size := hlt
 go_enter Tryz.func190, Tryz.ntmps190
 go_wp2_with fail
 go_region_law (first
   | (refine qaO rfl (.tmp 6) (.tmp 10) 94 rfl (bm + 1) 9 i0 (.string ⟨#[]⟩) 1 16 Tryz.underlying94 hi'.out hz0'.out hz1'.out hz2'.out rfl (by decide) (.slice NA σ.names.length nc) σ.names.length NL (by go_simp) hown6.out ⟨w9.heap.size, 0, none⟩ 1 1 [.string (X.strOf qt)] (by go_simp) rfl (qgi hx6.out) (fun u hu => by rw [List.mem_singleton.1 hu]; rfl) (by unfold maxLen; have := hn'.out; omega) (by have := hn'.out; omega) hbz.out ?_
      intro v7 w7 ho7 hg7 hat7
      have hend := kput.out w9 w7 v7 hT9.out hR9.out X6 hX6.out ho7 hg7 hat7
      obtain ⟨A7, c7, rfl, _, _⟩ := qbd ho7
      obtain ⟨p7, f7, hE7⟩ := hend
      replace hE7 := hid hE7
      clear ho7 hg7 hat7)
   | (go_simp
      go_at_call 185
      refine kt.out.mono ?_
      rintro e w9 ⟨rfl, hR, hT⟩
      have q9 : w9.cell? ⟨bm, 3, none⟩ = some (.slice NA σ.names.length nc) := qaa w9 bm 3 _ _ _ hR.box
      have hX := X.qab w9 (.cells #[.string (X.strOf qt)] 9)
      have hx := World.alloc_heap_new w9 (.cells #[.string (X.strOf qt)] 9)
      have hbz1 : bm < w9.heap.size := World.lt_of_get hR.box
      have q6x := qaa _ bm 3 _ _ _ ((hX.block bm hbz1).trans hR.box)
      have hz6 : (w9.alloc (.cells #[.string (X.strOf qt)] 9)).heap.size = w9.heap.size + 1 := World.size_alloc _ _
      obtain ⟨X6, hX6e⟩ : ∃ Y, w9.alloc (.cells #[.string (X.strOf qt)] 9) = Y := ⟨_, rfl⟩
      rw [hX6e] at hX hx q6x hz6
      have q6 : X6.cell? ⟨bm, 3, none⟩ = some (.slice NA σ.names.length nc) := q6x
      have hown6 := hid (kown.out w9 hT hR X6 hX)
      have hbz : Hid (bm + 1 <= X6.heap.size) := by show _ <= _; omega
      have hX6 := hid hX
      have hx6 := hid hx
      have hR9 := hid hR
      have hT9 := hid hT
      clear hX hx hR hT q6x hz6 hbz1 kt))
 all_goals
   go_wp2_with fail
   go_end0
   exact ⟨⟨rfl, hE7.out.1⟩, hE7.out.2⟩
theorem qdz (base bm : Nat) (A : Option Addr) (c : Nat) (ts : List Tok) (σ : PS) (w : World) (h : Rep w base bm A c ts σ) (hs : X.Short ts) (hn : σ.names.length <= 1099511627776) :
   Calls Tryz.prog 190 #[.pointer (some ⟨bm, 0, none⟩)] w fun e w' => Res base bm A c ts (stepP σ .operator) e w' /\ Below bm w w' := by
 rw [stepP]
 by_cases hk : (qaf σ.rest).kind = 4
 . rw [if_pos hk]; exact qjm base bm A c ts σ w h hs hn hk
 . rw [if_neg hk]; exact qkO base bm A c ts σ w h hk
end
end Go.Proofs.YtjnfhebbphdchaaGreatDoor.Pa
namespace Go.Proofs.YtjnfhebbphdchaaGreatDoor.Pa
open Go.RowKit Go.Shelf Go.Tm Go.Lx
attribute [local go_sem] Oper.semAt_some qbT qgR
theorem qgS {w w3 : World} {bm i : Nat} {v : Value} {cs : Array Value} {ty : TypeId} (h : Below w.heap.size w w3) (hx : w.heap[bm]? = some (.cells cs ty (0, 0))) : Below (w.setCell ⟨bm, i, none⟩ v).heap.size (w.setCell ⟨bm, i, none⟩ v) (w3.setCell ⟨bm, i, none⟩ v) := by
 have hz : (w.setCell ⟨bm, i, none⟩ v).heap.size = w.heap.size := by simp
 rw [hz]
 refine ⟨h.os, h.tape, h.output, by simpa using h.size, fun j hj => ?_⟩
 by_cases e : j = bm
 . subst e
   exact (heap_setCell_same w3 j i _ _ v ((h.block j hj).trans hx)).trans (heap_setCell_same w j i _ _ v hx).symm
 . exact ((Below.heap_setCell w3 ⟨bm, i, none⟩ v j e).trans (h.block j hj)).trans (Below.heap_setCell w ⟨bm, i, none⟩ v j e).symm
theorem qiB (k : Int) : named k = (qbO k || k == 12) := by
 unfold named qbO; rfl
section
variable [Inhabited PE]
theorem qmU (base bm : Nat) (A : Option Addr) (c : Nat) (ts : List Tok) (σ : PS) (w : World) (h : Rep w base bm A c ts σ) (kd : Int) (n b1 b2 : Nat) (hc1 : w.heap[b1]? = some (.cells #[.int .i64 kd] 3 (0, 0))) (hc2 : w.heap[b2]? = some (.cells #[.int .i64 n] 3 (0, 0))) (_n1 : b1 ≠ bm) (_n2 : b2 ≠ bm) (hT : σ.made <= 10000 -> n <= σ.terms.length) (hk1 : qbO kd = false) (hk2 : kd ≠ 12) :
   Calls Tryz.prog 186 #[.pointer (some ⟨bm, 0, none⟩), .pointer (some ⟨b1, 0, none⟩), .pointer (some ⟨b2, 0, none⟩)] w fun e w' => Res base bm A c ts (keepP σ kd ⟨#[]⟩ 0 n) e w' /\ Below bm w w' := by
 have hlt := h.lt
 have l1 := World.lt_of_get hc1
 have l2 := World.lt_of_get hc2
 have q1 : w.cell? ⟨b1, 0, none⟩ = some (.int .i64 kd) := qaa w b1 0 _ _ _ hc1
 have hbx := X.qab w (.cells #[.int .i64 kd, .string ⟨#[]⟩, .int .i64 0, .slice none 0 0] 26)
 have hx1 : (w.alloc (.cells #[.int .i64 kd, .string ⟨#[]⟩, .int .i64 0, .slice none 0 0] 26)).heap[w.heap.size]? = some (.cells #[.int .i64 kd, .string ⟨#[]⟩, .int .i64 0, .slice none 0 0] 26 (0, 0)) := World.alloc_heap_new w _
 have g2 : (kd == 12) = false := by simpa using hk2
 have hbx' := hid hbx
 have hx1' := hid hx1
 have hc1' := hid hc1
 have hc2' := hid hc2
 have h' := hid h
 have hT' := hid hT
 clear hbx hx1 hc1 hc2 h hk2 hT
 go_enter Tryz.func186, Tryz.ntmps186
 go_wp2_with fail
 refine (qfn kd 0 ⟨#[]⟩ (.slice none 0 0) _).mono ?_
 rintro e w2 ⟨rfl, hb2⟩
 have hB2 := hbx'.out.trans (hb2.mono hbx'.out.size)
 have hx2 := (hb2.block w.heap.size (World.lt_of_get hx1'.out)).trans hx1'.out
 have r1 : w2.cell? ⟨b1, 0, none⟩ = some (.int .i64 kd) := qaa w2 b1 0 _ _ _ ((hB2.block b1 l1).trans hc1'.out)
 have r2 : w2.cell? ⟨b2, 0, none⟩ = some (.int .i64 n) := qaa w2 b2 0 _ _ _ ((hB2.block b2 l2).trans hc2'.out)
 have d0 : w2.cell? ⟨w.heap.size, 0, none⟩ = some (.int .i64 kd) := qaa w2 w.heap.size 0 _ _ _ hx2
 have d1 : w2.cell? ⟨w.heap.size, 1, none⟩ = some (.string ⟨#[]⟩) := qaa w2 w.heap.size 1 _ _ _ hx2
 have d2 : w2.cell? ⟨w.heap.size, 2, none⟩ = some (.int .i64 0) := qaa w2 w.heap.size 2 _ _ _ hx2
 have d3 : w2.cell? ⟨w.heap.size, 3, none⟩ = some (.slice none 0 0) := qaa w2 w.heap.size 3 _ _ _ hx2
 have kk1 := hid (qeM (h'.out.later hB2) kd 0 ⟨#[]⟩ n hT'.out (by decide))
 have hB4' := hid (hB2.mono (Nat.le_of_lt hlt))
 clear hb2 hB2 hx2
 go_wp2_with fail
 refine kk1.out.mono ?_
 rintro e w5 ⟨hr, hB⟩
 have hr' := hid hr
 have hB5 := hid (hB4'.out.trans hB)
 have hways := hr.ways
 clear hr hB
 rcases hways with rfl | ⟨m, rfl⟩
 . go_wp2_with fail
   go_end0
   exact ⟨hr'.out, hB5.out⟩
 . exact ⟨rfl, hr'.out, hB5.out⟩
theorem qow (base bm : Nat) (A : Option Addr) (c : Nat) (ts : List Tok) (σ : PS) (w : World) (h : Rep w base bm A c ts σ) (kd : Int) (n b1 b2 : Nat) (hc1 : w.heap[b1]? = some (.cells #[.int .i64 kd] 3 (0, 0))) (hc2 : w.heap[b2]? = some (.cells #[.int .i64 n] 3 (0, 0))) (_n1 : b1 ≠ bm) (n2 : b2 ≠ bm) (hT : σ.made <= 10000 -> n <= σ.terms.length) (hN : 1 <= σ.names.length) (hN2 : σ.names.length <= 1099511627776) (hk1 : qbO kd = true) :
   Calls Tryz.prog 186 #[.pointer (some ⟨bm, 0, none⟩), .pointer (some ⟨b1, 0, none⟩), .pointer (some ⟨b2, 0, none⟩)] w fun e w' => Res base bm A c ts (keepP { σ with names := σ.names.dropLast } kd (σ.names.getLastD ⟨#[]⟩) 0 n) e w' /\ Below bm w w' := by
 have hlt := h.lt
 have l1 := World.lt_of_get hc1
 have l2 := World.lt_of_get hc2
 have q1 : w.cell? ⟨b1, 0, none⟩ = some (.int .i64 kd) := qaa w b1 0 _ _ _ hc1
 have hbx := X.qab w (.cells #[.int .i64 kd, .string ⟨#[]⟩, .int .i64 0, .slice none 0 0] 26)
 have hx1 : (w.alloc (.cells #[.int .i64 kd, .string ⟨#[]⟩, .int .i64 0, .slice none 0 0] 26)).heap[w.heap.size]? = some (.cells #[.int .i64 kd, .string ⟨#[]⟩, .int .i64 0, .slice none 0 0] 26 (0, 0)) := World.alloc_heap_new w _
 obtain ⟨k, pl, nm, tm, vs, xs, h0⟩ := h
 obtain ⟨L, hL⟩ : ∃ L, σ.names.length = L + 1 := ⟨σ.names.length - 1, by omega⟩
 obtain ⟨NA, nc, rfl, hlc, hcm⟩ := qbd h0.nown
 rw [hL] at h0 hlc
 obtain ⟨g, rfl⟩ : ∃ g, NA = some ⟨g, 0, none⟩ := by
   obtain ⟨_, ⟨h9, h8⟩ | ⟨g, cap, cur, h9, _⟩⟩ := h0.nown
   . rw [hL] at h8; cases h8
   . injection h9 with h9 _ _; exact ⟨g, h9⟩
 have hU := h0.unname (n := L) hL
 obtain ⟨s, hs⟩ : ∃ s, σ.names.getLastD ⟨#[]⟩ = s := ⟨_, rfl⟩
 have hsl : σ.names[L]? = some s := by
   rw [<- hs, List.getLastD_eq_getLast?, List.getLast?_eq_getElem?, hL, Nat.add_sub_cancel]
   rw [List.getElem?_eq_getElem (by omega)]; rfl
 have hsz : s.size <= 9223372036854775807 := h0.nsz s (List.mem_of_getElem? hsl)
 rw [hs]
 have hcell : w.cell? ⟨g, L, none⟩ = some (.string s) := by
   have := h0.nown.cells (g := g) rfl L (.string s) (by rw [List.getElem?_map, hsl]; rfl)
   rwa [qdH, Nat.zero_add] at this
 have p3 : w.cell? ⟨bm, 3, none⟩ = some (.slice (some ⟨g, 0, none⟩) (L + 1) nc) := qaa w bm 3 _ _ _ h0.rdr.box
 have hgl : g < w.heap.size := (h0.nAt rfl).2
 have hgm : ¬ g = bm := by have := (h0.nAt (g := g) rfl).1; omega
 have e1 : ((L + 1 : Nat) : Int) - 1 = (L : Int) := by omega
 have e0 : (L : Int) < ((L + 1 : Nat) : Int) := by omega
 have e2 : (L : Int) <= (nc : Int) := by omega
 have e3 : ((L + 1 : Nat) : Int) <= 1099511627777 := by omega
 have hbb : ¬ w.heap.size = bm := by omega
 have hbx' := hid hbx
 have hx1' := hid hx1
 have hc1' := hid hc1
 have hc2' := hid hc2
 have h0' := hid h0
 have hU' := hid hU
 have hT' := hid hT
 have hsz' := hid hsz
 have hcell' := hid hcell
 have p3' := hid p3
 clear hbx hx1 hc1 hc2 h0 hT hU hsz hcell p3 hs hsl hL hlc hcm hN hN2
 obtain ⟨L1, hL1⟩ : ∃ x, L + 1 = x := ⟨_, rfl⟩
 rw [hL1] at e0 e1 e3 p3' h0'
 have hL1' := hid hL1
 clear hL1
 go_enter Tryz.func186, Tryz.ntmps186
 go_wp2_with fail
 refine (qfn kd 0 ⟨#[]⟩ (.slice none 0 0) _).mono ?_
 rintro e w2 ⟨rfl, hb2⟩
 have hB2 := hbx'.out.trans (hb2.mono hbx'.out.size)
 have hx2 := (hb2.block w.heap.size (World.lt_of_get hx1'.out)).trans hx1'.out
 have r1 : w2.cell? ⟨b1, 0, none⟩ = some (.int .i64 kd) := qaa w2 b1 0 _ _ _ ((hB2.block b1 l1).trans hc1'.out)
 have p4 : w2.cell? ⟨bm, 3, none⟩ = some (.slice (some ⟨g, 0, none⟩) L1 nc) := (hB2.cell (p := ⟨bm, 3, none⟩) hlt).trans p3'.out
 have s4 : w2.cell? ⟨g, L, none⟩ = some (.string s) := (hB2.cell (p := ⟨g, L, none⟩) hgl).trans hcell'.out
 have d1 : w2.cell? ⟨w.heap.size, 1, none⟩ = some (.string ⟨#[]⟩) := qaa w2 w.heap.size 1 _ _ _ hx2
 have df1 : w2.frozen? ⟨w.heap.size, 1, none⟩ = false := qac hx2 1
 have hx3 := heap_setCell_same w2 w.heap.size 1 _ _ (.string s) hx2
 have hB3 := hB2.setCell (p := ⟨w.heap.size, 1, none⟩) (Nat.le_refl _) (.string s)
 obtain ⟨w3, hw3⟩ : ∃ Y, w2.setCell ⟨w.heap.size, 1, none⟩ (.string s) = Y := ⟨_, rfl⟩
 rw [hw3] at hx3 hB3
 have hbox3 := (hB3.block bm hlt).trans h0'.out.rdr.box
 have p5 : w3.cell? ⟨bm, 3, none⟩ = some (.slice (some ⟨g, 0, none⟩) L1 nc) := qaa w3 bm 3 _ _ _ hbox3
 have pf5 : w3.frozen? ⟨bm, 3, none⟩ = false := qac hbox3 3
 have hx4 := (Below.heap_setCell w3 ⟨bm, 3, none⟩ (.slice (some ⟨g, 0, none⟩) L nc) w.heap.size hbb).trans hx3
 have hk4 := qgS (i := 3) (v := .slice (some ⟨g, 0, none⟩) L nc) hB3 h0'.out.rdr.box
 have hz4 : (w.setCell ⟨bm, 3, none⟩ (.slice (some ⟨g, 0, none⟩) L nc)).heap.size = w.heap.size := by simp
 have hb1' := (Below.heap_setCell w3 ⟨bm, 3, none⟩ (.slice (some ⟨g, 0, none⟩) L nc) b2 n2).trans ((hB3.block b2 l2).trans hc2'.out)
 obtain ⟨w4, hw4⟩ : ∃ Y, w3.setCell ⟨bm, 3, none⟩ (.slice (some ⟨g, 0, none⟩) L nc) = Y := ⟨_, rfl⟩
 rw [hw4] at hx4 hk4 hb1'
 have r2 : w4.cell? ⟨b2, 0, none⟩ = some (.int .i64 n) := qaa w4 b2 0 _ _ _ hb1'
 have t0 : w4.cell? ⟨w.heap.size, 0, none⟩ = some (.int .i64 kd) := qaa w4 w.heap.size 0 _ _ _ hx4
 have t1 : w4.cell? ⟨w.heap.size, 1, none⟩ = some (.string s) := qaa w4 w.heap.size 1 _ _ _ hx4
 have t2 : w4.cell? ⟨w.heap.size, 2, none⟩ = some (.int .i64 0) := qaa w4 w.heap.size 2 _ _ _ hx4
 have t3 : w4.cell? ⟨w.heap.size, 3, none⟩ = some (.slice none 0 0) := qaa w4 w.heap.size 3 _ _ _ hx4
 have kk1 := hid (qeM (σ := { σ with names := σ.names.dropLast }) ⟨k, pl, _, tm, vs, xs, hU'.out.later hk4⟩ kd 0 s n hT'.out hsz'.out)
 have hB4' : Hid (Below bm w w4) := ((Below.refl bm w).setCell (p := ⟨bm, 3, none⟩) (Nat.le_refl _) _).trans (hk4.mono (by rw [hz4]; exact Nat.le_of_lt hlt))
 clear hb2 hB2 hx2 hx3 hB3 hbox3 hx4 hk4 hz4 hb1'
 go_wp2_with fail
 refine kk1.out.mono ?_
 rintro e w5 ⟨hr, hB⟩
 have hr' := hid hr
 have hB5 := hid (hB4'.out.trans hB)
 have hways := hr.ways
 clear hr hB
 rcases hways with rfl | ⟨m, rfl⟩
 . go_wp2_with fail
   go_end0
   exact ⟨hr'.out, hB5.out⟩
 . exact ⟨rfl, hr'.out, hB5.out⟩
theorem qrZ (base bm : Nat) (A : Option Addr) (c : Nat) (ts : List Tok) (σ : PS) (w : World) (h : Rep w base bm A c ts σ) (kd : Int) (n b1 b2 : Nat) (hc1 : w.heap[b1]? = some (.cells #[.int .i64 kd] 3 (0, 0))) (hc2 : w.heap[b2]? = some (.cells #[.int .i64 n] 3 (0, 0))) (_n1 : b1 ≠ bm) (n2 : b2 ≠ bm) (hT : σ.made <= 10000 -> n <= σ.terms.length) (hN : 1 <= σ.names.length) (hN2 : σ.names.length <= 1099511627776) (hk1 : qbO kd = false) (hk2 : kd = 12) :
   Calls Tryz.prog 186 #[.pointer (some ⟨bm, 0, none⟩), .pointer (some ⟨b1, 0, none⟩), .pointer (some ⟨b2, 0, none⟩)] w fun e w' => Res base bm A c ts (keepP { σ with names := σ.names.dropLast } kd (σ.names.getLastD ⟨#[]⟩) 0 n) e w' /\ Below bm w w' := by
 have hlt := h.lt
 have l1 := World.lt_of_get hc1
 have l2 := World.lt_of_get hc2
 have q1 : w.cell? ⟨b1, 0, none⟩ = some (.int .i64 kd) := qaa w b1 0 _ _ _ hc1
 have hbx := X.qab w (.cells #[.int .i64 kd, .string ⟨#[]⟩, .int .i64 0, .slice none 0 0] 26)
 have hx1 : (w.alloc (.cells #[.int .i64 kd, .string ⟨#[]⟩, .int .i64 0, .slice none 0 0] 26)).heap[w.heap.size]? = some (.cells #[.int .i64 kd, .string ⟨#[]⟩, .int .i64 0, .slice none 0 0] 26 (0, 0)) := World.alloc_heap_new w _
 have g2 : (kd == 12) = true := by simpa using hk2
 clear hk2
 obtain ⟨k, pl, nm, tm, vs, xs, h0⟩ := h
 obtain ⟨L, hL⟩ : ∃ L, σ.names.length = L + 1 := ⟨σ.names.length - 1, by omega⟩
 obtain ⟨NA, nc, rfl, hlc, hcm⟩ := qbd h0.nown
 rw [hL] at h0 hlc
 obtain ⟨g, rfl⟩ : ∃ g, NA = some ⟨g, 0, none⟩ := by
   obtain ⟨_, ⟨h9, h8⟩ | ⟨g, cap, cur, h9, _⟩⟩ := h0.nown
   . rw [hL] at h8; cases h8
   . injection h9 with h9 _ _; exact ⟨g, h9⟩
 have hU := h0.unname (n := L) hL
 obtain ⟨s, hs⟩ : ∃ s, σ.names.getLastD ⟨#[]⟩ = s := ⟨_, rfl⟩
 have hsl : σ.names[L]? = some s := by
   rw [<- hs, List.getLastD_eq_getLast?, List.getLast?_eq_getElem?, hL, Nat.add_sub_cancel]
   rw [List.getElem?_eq_getElem (by omega)]; rfl
 have hsz : s.size <= 9223372036854775807 := h0.nsz s (List.mem_of_getElem? hsl)
 rw [hs]
 have hcell : w.cell? ⟨g, L, none⟩ = some (.string s) := by
   have := h0.nown.cells (g := g) rfl L (.string s) (by rw [List.getElem?_map, hsl]; rfl)
   rwa [qdH, Nat.zero_add] at this
 have p3 : w.cell? ⟨bm, 3, none⟩ = some (.slice (some ⟨g, 0, none⟩) (L + 1) nc) := qaa w bm 3 _ _ _ h0.rdr.box
 have hgl : g < w.heap.size := (h0.nAt rfl).2
 have hgm : ¬ g = bm := by have := (h0.nAt (g := g) rfl).1; omega
 have e1 : ((L + 1 : Nat) : Int) - 1 = (L : Int) := by omega
 have e0 : (L : Int) < ((L + 1 : Nat) : Int) := by omega
 have e2 : (L : Int) <= (nc : Int) := by omega
 have e3 : ((L + 1 : Nat) : Int) <= 1099511627777 := by omega
 have hbb : ¬ w.heap.size = bm := by omega
 have hbx' := hid hbx
 have hx1' := hid hx1
 have hc1' := hid hc1
 have hc2' := hid hc2
 have h0' := hid h0
 have hU' := hid hU
 have hT' := hid hT
 have hsz' := hid hsz
 have hcell' := hid hcell
 have p3' := hid p3
 clear hbx hx1 hc1 hc2 h0 hT hU hsz hcell p3 hs hsl hL hlc hcm hN hN2
 obtain ⟨L1, hL1⟩ : ∃ x, L + 1 = x := ⟨_, rfl⟩
 rw [hL1] at e0 e1 e3 p3' h0'
 have hL1' := hid hL1
 clear hL1
 go_enter Tryz.func186, Tryz.ntmps186
 go_wp2_with fail
 refine (qfn kd 0 ⟨#[]⟩ (.slice none 0 0) _).mono ?_
 rintro e w2 ⟨rfl, hb2⟩
 have hB2 := hbx'.out.trans (hb2.mono hbx'.out.size)
 have hx2 := (hb2.block w.heap.size (World.lt_of_get hx1'.out)).trans hx1'.out
 have r1 : w2.cell? ⟨b1, 0, none⟩ = some (.int .i64 kd) := qaa w2 b1 0 _ _ _ ((hB2.block b1 l1).trans hc1'.out)
 have p4 : w2.cell? ⟨bm, 3, none⟩ = some (.slice (some ⟨g, 0, none⟩) L1 nc) := (hB2.cell (p := ⟨bm, 3, none⟩) hlt).trans p3'.out
 have s4 : w2.cell? ⟨g, L, none⟩ = some (.string s) := (hB2.cell (p := ⟨g, L, none⟩) hgl).trans hcell'.out
 have d1 : w2.cell? ⟨w.heap.size, 1, none⟩ = some (.string ⟨#[]⟩) := qaa w2 w.heap.size 1 _ _ _ hx2
 have df1 : w2.frozen? ⟨w.heap.size, 1, none⟩ = false := qac hx2 1
 have hx3 := heap_setCell_same w2 w.heap.size 1 _ _ (.string s) hx2
 have hB3 := hB2.setCell (p := ⟨w.heap.size, 1, none⟩) (Nat.le_refl _) (.string s)
 obtain ⟨w3, hw3⟩ : ∃ Y, w2.setCell ⟨w.heap.size, 1, none⟩ (.string s) = Y := ⟨_, rfl⟩
 rw [hw3] at hx3 hB3
 have hbox3 := (hB3.block bm hlt).trans h0'.out.rdr.box
 have p5 : w3.cell? ⟨bm, 3, none⟩ = some (.slice (some ⟨g, 0, none⟩) L1 nc) := qaa w3 bm 3 _ _ _ hbox3
 have pf5 : w3.frozen? ⟨bm, 3, none⟩ = false := qac hbox3 3
 have hx4 := (Below.heap_setCell w3 ⟨bm, 3, none⟩ (.slice (some ⟨g, 0, none⟩) L nc) w.heap.size hbb).trans hx3
 have hk4 := qgS (i := 3) (v := .slice (some ⟨g, 0, none⟩) L nc) hB3 h0'.out.rdr.box
 have hz4 : (w.setCell ⟨bm, 3, none⟩ (.slice (some ⟨g, 0, none⟩) L nc)).heap.size = w.heap.size := by simp
 have hb1' := (Below.heap_setCell w3 ⟨bm, 3, none⟩ (.slice (some ⟨g, 0, none⟩) L nc) b2 n2).trans ((hB3.block b2 l2).trans hc2'.out)
 obtain ⟨w4, hw4⟩ : ∃ Y, w3.setCell ⟨bm, 3, none⟩ (.slice (some ⟨g, 0, none⟩) L nc) = Y := ⟨_, rfl⟩
 rw [hw4] at hx4 hk4 hb1'
 have r2 : w4.cell? ⟨b2, 0, none⟩ = some (.int .i64 n) := qaa w4 b2 0 _ _ _ hb1'
 have t0 : w4.cell? ⟨w.heap.size, 0, none⟩ = some (.int .i64 kd) := qaa w4 w.heap.size 0 _ _ _ hx4
 have t1 : w4.cell? ⟨w.heap.size, 1, none⟩ = some (.string s) := qaa w4 w.heap.size 1 _ _ _ hx4
 have t2 : w4.cell? ⟨w.heap.size, 2, none⟩ = some (.int .i64 0) := qaa w4 w.heap.size 2 _ _ _ hx4
 have t3 : w4.cell? ⟨w.heap.size, 3, none⟩ = some (.slice none 0 0) := qaa w4 w.heap.size 3 _ _ _ hx4
 have kk1 := hid (qeM (σ := { σ with names := σ.names.dropLast }) ⟨k, pl, _, tm, vs, xs, hU'.out.later hk4⟩ kd 0 s n hT'.out hsz'.out)
 have hB4' : Hid (Below bm w w4) := ((Below.refl bm w).setCell (p := ⟨bm, 3, none⟩) (Nat.le_refl _) _).trans (hk4.mono (by rw [hz4]; exact Nat.le_of_lt hlt))
 clear hb2 hB2 hx2 hx3 hB3 hbox3 hx4 hk4 hz4 hb1'
 go_wp2_with fail
 refine kk1.out.mono ?_
 rintro e w5 ⟨hr, hB⟩
 have hr' := hid hr
 have hB5 := hid (hB4'.out.trans hB)
 have hways := hr.ways
 clear hr hB
 rcases hways with rfl | ⟨m, rfl⟩
 . go_wp2_with fail
   go_end0
   exact ⟨hr'.out, hB5.out⟩
 . exact ⟨rfl, hr'.out, hB5.out⟩
theorem qox (base bm : Nat) (A : Option Addr) (c : Nat) (ts : List Tok) (σ : PS) (w : World) (h : Rep w base bm A c ts σ) (kd : Int) (n b1 b2 : Nat) (hc1 : w.heap[b1]? = some (.cells #[.int .i64 kd] 3 (0, 0))) (hc2 : w.heap[b2]? = some (.cells #[.int .i64 n] 3 (0, 0))) (n1 : b1 ≠ bm) (n2 : b2 ≠ bm) (hT : σ.made <= 10000 -> n <= σ.terms.length) (hN : named kd = true -> 1 <= σ.names.length) (hN2 : σ.names.length <= 1099511627776) :
   Calls Tryz.prog 186 #[.pointer (some ⟨bm, 0, none⟩), .pointer (some ⟨b1, 0, none⟩), .pointer (some ⟨b2, 0, none⟩)] w fun e w' => Res base bm A c ts (stepP σ (.made kd n)) e w' /\ Below bm w w' := by
 rw [stepP]
 cases hb : qbO kd with
 | true =>
   have hn : named kd = true := by rw [qiB, hb]; rfl
   rw [if_pos hn]
   exact qow base bm A c ts σ w h kd n b1 b2 hc1 hc2 n1 n2 hT (hN hn) hN2 hb
 | false =>
   by_cases h12 : kd = 12
   . have hn : named kd = true := by rw [qiB, hb, h12]; rfl
     rw [if_pos hn]
     exact qrZ base bm A c ts σ w h kd n b1 b2 hc1 hc2 n1 n2 hT (hN hn) hN2 hb h12
   . have hn : ¬ named kd = true := by rw [qiB, hb]; simpa using h12
     rw [if_neg hn]
     exact qmU base bm A c ts σ w h kd n b1 b2 hc1 hc2 n1 n2 hT hb h12
end
end Go.Proofs.YtjnfhebbphdchaaGreatDoor.Pa
namespace Go.Proofs.YtjnfhebbphdchaaGreatDoor.Pa
open Go.RowKit Go.Shelf Go.Tm Go.Lx
variable [Inhabited PE]
theorem qsa {w : World} {base bm : Nat} {A : Option Addr} {c : Nat} {ts : List Tok} {σ : PS} {k : Nat} {pl nm tm : Value} {vs : List Value} {xs : List (Go.Tm.T × Option Addr × Nat)} {s : Stp} {v : Value}
   (h : St w base bm A c ts σ k pl nm tm vs xs) (hv : StpAt w (Fix w bm pl nm tm) s v) (hs : okS s) (hp : σ.plan.length <= 1099511627776) (hn : σ.names.length <= 1099511627776) (hsh : X.Short ts) (hN : (effN s).1 <= σ.names.length) (hT : σ.made <= 10000 -> (effT s).1 <= σ.terms.length) :
   ∃ f cap, v = .func (.func f) #[] cap /\ (∀ args w, (callFunc f args).run Tryz.prog w = .ok (.enter f args) w) ∧
     Calls Tryz.prog f (#[.pointer (some ⟨bm, 0, none⟩)] ++ cap) w fun e w' => Res base bm A c ts (stepP σ s) e w' /\ Below bm w w' := by
 have hR : Rep w base bm A c ts σ := ⟨k, pl, nm, tm, vs, xs, h⟩
 cases s with
 | seq => exact ⟨_, _, hv, enters_of Tryz.func99 (by kernel_rfl) rfl, qrR base bm A c ts σ w hR hp⟩
 | more => exact ⟨_, _, hv, enters_of Tryz.func136 (by kernel_rfl) rfl, qqo base bm A c ts σ w hR hp⟩
 | single => exact ⟨_, _, hv, enters_of Tryz.func135 (by kernel_rfl) rfl, qmN base bm A c ts σ w hR hp⟩
 | oper => exact ⟨_, _, hv, enters_of Tryz.func167 (by kernel_rfl) rfl, qqq base bm A c ts σ w hR hp⟩
 | appl => exact ⟨_, _, hv, enters_of Tryz.func166 (by kernel_rfl) rfl, qqr base bm A c ts σ w hR hp⟩
 | args => exact ⟨_, _, hv, enters_of Tryz.func189 (by kernel_rfl) rfl, qqs base bm A c ts σ w hR hp⟩
 | simple => exact ⟨_, _, hv, enters_of Tryz.func188 (by kernel_rfl) rfl, qmT base bm A c ts σ w hR hp hsh⟩
 | name => exact ⟨_, _, hv, enters_of Tryz.func164 (by kernel_rfl) rfl, qbD base bm A c ts σ w hR hsh hn⟩
 | operator => exact ⟨_, _, hv, enters_of Tryz.func190 (by kernel_rfl) rfl, qdz base bm A c ts σ w hR hsh hn⟩
 | fin => exact ⟨_, _, hv, enters_of Tryz.func100 (by kernel_rfl) rfl, qrX base bm A c ts σ w hR⟩
 | word s =>
   obtain ⟨b, h1, h2, h3⟩ := hv
   exact ⟨_, _, h1, enters_of Tryz.func184 (by kernel_rfl) rfl, qqu hR hs b h3⟩
 | made kd n =>
   obtain ⟨b1, b2, h1, h2, h3, h4, h5⟩ := hv
   refine ⟨_, _, h1, enters_of Tryz.func186 (by kernel_rfl) rfl, qox base bm A c ts σ w hR kd n b1 b2 h4 h5 h2.box h3.box hT (fun hq => ?_) hn⟩
   have e : effN (.made kd n) = (1, 0) := by rw [effN, if_pos hq]
   rw [e] at hN
   exact hN
end Go.Proofs.YtjnfhebbphdchaaGreatDoor.Pa
namespace Go.Proofs.YtjnfhebbphdchaaGreatDoor.Pa
open Go.RowKit Go.Shelf Go.Tm Go.Lx
attribute [local go_sem] Oper.semAt_some
theorem St.guard {E0 E : PE} {W : World} {base bm : Nat} {A : Option Addr} {c : Nat} {ts : List Tok} {σ : PS} {k : Nat} {pl nm tm : Value} {vs : List Value} {xs : List (Go.Tm.T × Option Addr × Nat)} (h : @St ⟨E0⟩ W base bm A c ts σ k pl nm tm vs xs) {W' : World} (hb : Below W.heap.size W W') (hE : ∀ x o, E x = some o -> E0 x = some o ∨ (W.heap.size <= x /\ W'.heap[x]? = some o /\ o.isCells = true)) : @St ⟨E⟩ W' base bm A c ts σ k pl nm tm vs xs := by
 have hl := @St.later ⟨E0⟩ _ _ _ _ _ _ _ _ _ _ _ _ _ _ h hb
 have hlt := @St.lt ⟨E0⟩ _ _ _ _ _ _ _ _ _ _ _ _ _ h
 have hpA := fun g => @St.pAt ⟨E0⟩ _ _ _ _ _ _ _ _ _ _ _ _ _ h g
 have hnA := fun g => @St.nAt ⟨E0⟩ _ _ _ _ _ _ _ _ _ _ _ _ _ h g
 have htA := fun g => @St.tAt ⟨E0⟩ _ _ _ _ _ _ _ _ _ _ _ _ _ h g
 obtain ⟨_, _, _, b4, _, _, _, b8, _, _, _, _, _, _, _⟩ := h
 obtain ⟨a1, a2, a3, _, a5, a6, a7, _, a9, a10, a11, a12, a13, a14, a15⟩ := hl
 have hk : ∀ b, @Fix ⟨E0⟩ W bm pl nm tm b -> @Fix ⟨E⟩ W' bm pl nm tm b /\ W'.heap[b]? = W.heap[b]? := fun b hb2 => by
   obtain ⟨q1, q2⟩ := hb2
   have he := hb.block b q1.lt
   refine ⟨@Fix.mk ⟨E⟩ _ _ _ _ _ _ (q1.keep he (qaj _ _) (qaj _ _) (qaj _ _)) ?_, he⟩
   show E b = none
   cases e : E b with
   | none => rfl
   | some o =>
     rcases hE b o e with h1 | h1
     . have q3 : E0 b = none := q2
       rw [h1] at q3; cases q3
     . have := q1.lt; omega
 refine @St.mk ⟨E⟩ _ _ _ _ _ _ _ _ _ _ _ _ _ a1 a2 a3 (b4.kept hk) a5 a6 a7 (fun x hx => (b8 x hx).kept (fun b hb2 => (hk b hb2).1) (fun b hb2 => (hk b hb2).2)) a9 a10 a11 a12 a13 a14 fun x o hx => ?_
 rcases hE x o hx with h1 | ⟨h1, h2, h3⟩
 . exact a15 x o h1
 . exact ⟨h2, ⟨o, h2, h3⟩, by omega, fun e => by have := (hpA x e).2; omega, fun e => by have := (hnA x e).2; omega, fun e => by have := (htA x e).2; omega⟩
theorem St.free_set {E0 E : PE} {W : World} {base bm : Nat} {A : Option Addr} {c : Nat} {ts : List Tok} {σ : PS} {k : Nat} {pl nm tm : Value} {vs : List Value} {xs : List (Go.Tm.T × Option Addr × Nat)} (h : @St ⟨E⟩ W base bm A c ts σ k pl nm tm vs xs) {eb : Nat} {oe : Obj} (he : E eb = some oe) (hge : base <= eb) (v : Value) (hE : ∀ x o, E0 x = some o -> E x = some o /\ x ≠ eb) : @St ⟨E0⟩ (W.setCell ⟨eb, 0, none⟩ v) base bm A c ts σ k pl nm tm vs xs := by
 obtain ⟨a1, a2, a3, a4, a5, a6, a7, a8, a9, a10, a11, a12, a13, a14, a15⟩ := h
 obtain ⟨_, q1⟩ := a15 eb oe he
 have hs : ∀ j, j ≠ eb -> (W.setCell ⟨eb, 0, none⟩ v).heap[j]? = W.heap[j]? := fun j hj => Below.heap_setCell W ⟨eb, 0, none⟩ v j hj
 have hkB : ∀ b, b ≠ eb -> FixB W bm pl nm tm b -> FixB (W.setCell ⟨eb, 0, none⟩ v) bm pl nm tm b := fun b hb hf => hf.keep (hs b hb) (qaj _ _) (qaj _ _) (qaj _ _)
 have hk : ∀ b, @Fix ⟨E⟩ W bm pl nm tm b -> @Fix ⟨E0⟩ (W.setCell ⟨eb, 0, none⟩ v) bm pl nm tm b /\ (W.setCell ⟨eb, 0, none⟩ v).heap[b]? = W.heap[b]? := fun b hb2 => by
   obtain ⟨q2, q3⟩ := hb2
   have q4 : E b = none := q3
   have hne : b ≠ eb := fun e => by rw [e, he] at q4; cases q4
   refine ⟨@Fix.mk ⟨E0⟩ _ _ _ _ _ _ (hkB b hne q2) ?_, hs b hne⟩
   show E0 b = none
   cases e : E0 b with
   | none => rfl
   | some o => rw [(hE b o e).1] at q4; cases q4
 have hlow := a1.low
 have hbx := q1.box
 refine @St.mk ⟨E0⟩ _ _ _ _ _ _ _ _ _ _ _ _ _ (a1.same (hs bm (Ne.symm hbx)) fun j hj => ?_) a2 (qal a3 fun g e => hs g fun e2 => q1.pl (e2 ▸ e)) (a4.kept hk) (qal a5 fun g e => hs g fun e2 => q1.nm (e2 ▸ e)) a6 (qal a7 fun g e => hs g fun e2 => q1.tm (e2 ▸ e)) (fun x hx => (a8 x hx).kept (fun b hb2 => (hk b hb2).1) (fun b hb2 => (hk b hb2).2)) a9 a10 a11 a12 a13 a14 fun x o hx => ?_
 . exact hs j (by omega)
 . obtain ⟨h1, h2⟩ := hE x o hx
   exact ⟨(hs x h2).trans (a15 x o h1).1, hkB x h2 (a15 x o h1).2⟩
theorem qqw {σ : PS} {o : Out} (h : Ends σ o) (hp : σ.plan = []) : o = .ok σ := by
 cases h with
 | done _ _ => rfl
 | step h1 _ _ => rw [hp] at h1; cases h1
 | stop h1 _ => rw [hp] at h1; cases h1
theorem qoy {σ : PS} {o : Out} {s : Stp} {p : List Stp} (h : Ends σ o) (hp : σ.plan = s :: p) : (∃ τ, stepP { σ with plan := p } s = .ok τ /\ Ends τ o) ∨ (∃ τ e, stepP { σ with plan := p } s = .bad τ e /\ o = .bad τ e) := by
 cases h with
 | done _ h1 => rw [hp] at h1; cases h1
 | step h1 h2 g => rw [hp] at h1; cases h1; exact .inl ⟨_, h2, g⟩
 | stop h1 h2 => rw [hp] at h1; cases h1; exact .inr ⟨_, _, h2, rfl⟩
structure RI [Inhabited PE] (w : World) (base bm : Nat) (A : Option Addr) (c : Nat) (ts : List Tok) (o : Out) (N : Nat) (σ : PS) (W : World) : Prop where
 rep : Rep W base bm A c ts σ
 ends : Ends σ o
 fits : Fits σ
 lim : Lim N σ
 below : Below bm w W
def qtt [Inhabited PE] (base bm : Nat) (A : Option Addr) (c : Nat) (ts : List Tok) (o : Out) (e : Ending) (w' : World) : Prop := match o with
 | .ok τ => e = .returned .nilIface /\ Rep w' base bm A c ts τ
 | .bad τ n => (∃ k : Nat, e = .returned (stopV k n)) /\ Rep w' base bm A c ts τ
def errV (k : Nat) : Out -> Value
 | .ok _ => .nilIface
 | .bad _ n => stopV k n
theorem qqx [Inhabited PE] (base bm : Nat) (A : Option Addr) (c : Nat) (ts : List Tok) (σ : PS) (o : Out) (N : Nat) (w : World) (h : Rep ((w.alloc (.cells #[.pointer (some ⟨bm, 0, none⟩)] 163)).alloc (.cells #[.nilIface] 129)) base bm A c ts σ) (hlt : bm < w.heap.size)
   (hEr : (default : PE) w.heap.size = some (.cells #[.pointer (some ⟨bm, 0, none⟩)] 163 (0, 0))) (hEe : (default : PE) (w.heap.size + 1) = some (.cells #[.nilIface] 129 (0, 0)))
   (g : Ends σ o) (hF : Fits σ) (hL : Lim N σ) (hN : N <= 1099511627776) (hsh : X.Short ts) :
   Calls Tryz.prog 101 #[.pointer (some ⟨bm, 0, none⟩)] w fun e w' => ∃ w9 k, e = .returned (errV k o) /\ Rep w9 base bm A c ts o.st /\ Below bm w w9 /\ w' = w9.setCell ⟨w.heap.size + 1, 0, none⟩ (errV k o) := by
 have hmf : ∀ (fn : Fn) (first cap : Array Value) (w : World), (Instr.makeFunc fn first cap).run Tryz.prog w = .ok (.func fn first cap) w := fun _ _ _ _ => rfl
 have hb1 := X.qab w (.cells #[.pointer (some ⟨bm, 0, none⟩)] 163)
 have hb2 := hb1.trans ((X.qab (w.alloc (.cells #[.pointer (some ⟨bm, 0, none⟩)] 163)) (.cells #[.nilIface] 129)).mono hb1.size)
 have hI0 : Hid (RI w base bm A c ts o N σ ((w.alloc (.cells #[.pointer (some ⟨bm, 0, none⟩)] 163)).alloc (.cells #[.nilIface] 129))) :=
   ⟨h, g, hF, hL, hb2.mono (Nat.le_of_lt hlt)⟩
 have hEr' := hid hEr
 have hEe' := hid hEe
 clear hb1 hb2 h g hF hL hEr hEe
 go_enter_defers Tryz.func101, Tryz.ntmps101
 go_wp2_with fail
 go_loopg [] (phi σ) (fun gn wr => ∃ σ' : PS, gn = phi σ' /\ Hid (RI w base bm A c ts o N σ' wr))
 case atStart => exact ⟨σ, rfl, hI0⟩
 case round =>
   clear hI0
   obtain ⟨σ', rfl, hX⟩ := hrel
   obtain ⟨k, pl, nm, tm, vs, xs, hst⟩ := hX.out.rep
   have hrb := (hst.prot _ _ hEr'.out).1
   have heb := (hst.prot _ _ hEe'.out).1
   have r0 : wr.cell? ⟨w.heap.size, 0, none⟩ = some (.pointer (some ⟨bm, 0, none⟩)) := qaa wr w.heap.size 0 _ _ _ hrb
   have e0 : wr.cell? ⟨w.heap.size + 1, 0, none⟩ = some .nilIface := qaa wr (w.heap.size + 1) 0 _ _ _ heb
   have ef0 : wr.frozen? ⟨w.heap.size + 1, 0, none⟩ = false := qac heb 0
   obtain ⟨PA, pc, rfl, hpc, hpm⟩ := qbd hst.pown
   have p2 : wr.cell? ⟨bm, 2, none⟩ = some (.slice PA vs.length pc) := qaa wr bm 2 _ _ _ hst.rdr.box
   cases hplan : σ'.plan with
   | nil =>
     have hv0 : vs = [] := List.eq_nil_of_length_eq_zero (by rw [hst.plen, hplan]; rfl)
     subst hv0
     have ho := qqw hX.out.ends hplan
     have hR : Hid (Rep wr base bm A c ts σ') := hX.out.rep
     have hB := hid hX.out.below
     have heb' := hid heb
     clear hst hrb heb hpc hpm
     subst ho
     have q9 : (wr.setCell ⟨w.heap.size + 1, 0, none⟩ .nilIface).cell? ⟨w.heap.size + 1, 0, none⟩ = some .nilIface := qaa _ (w.heap.size + 1) 0 _ _ _ (heap_setCell_same wr (w.heap.size + 1) 0 _ _ .nilIface heb'.out)
     go_wp2_with fail
     refine leaves_cons (f := 137) (args := #[.pointer (some ⟨w.heap.size, 0, none⟩), .pointer (some ⟨w.heap.size + 1, 0, none⟩)]) (by simp) (by simp [go_sem]) ?_
     refine (qpN _ _ _).mono ?_
     rintro e u' w'' ⟨rfl, rfl, rfl⟩
     refine ⟨.nilIface, ?_, wr, 0, rfl, hR.out, hB.out, rfl⟩
     simp [results, Tryz.results101, go_sem, q9]
   | cons s p =>
     obtain ⟨v, vs', rfl⟩ : ∃ v vs', vs = v :: vs' := by
       cases vs with
       | nil => have := hst.plen; rw [hplan] at this; cases this
       | cons v vs' => exact ⟨v, vs', rfl⟩
     have hpl := hst.plen
     rw [hplan] at hpl
     obtain ⟨gb, rfl⟩ : ∃ gb, PA = some ⟨gb, 0, none⟩ := by
       obtain ⟨_, ⟨h9, h8⟩ | ⟨gb, cap, cur, h9, _⟩⟩ := hst.pown
       . cases h8
       . injection h9 with h9 _ _; exact ⟨gb, h9⟩
     have hcv : wr.cell? ⟨gb, vs'.length, none⟩ = some v := by
       have := hst.pown.cells (g := gb) rfl vs'.length v (by rw [List.reverse_cons, List.getElem?_append_right (by simp)]; simp)
       rwa [qdH, Nat.zero_add] at this
     have hbd : Below wr.heap.size wr wr.drew := (Below.refl _ wr).drew
     have hpop := (hst.later hbd).pop hplan
     have hlimle := hX.out.lim.le
     have hlimp := hX.out.lim.plan
     rw [hplan] at hlimp
     obtain ⟨f, cap, rfl, hent, hcalls⟩ := qsa hpop.1 hpop.2 (hX.out.lim.ok s (by rw [hplan]; simp)) (by rw [List.length_cons] at hlimp; show p.length <= _; omega) (by show σ'.names.length <= _; omega) hsh (hX.out.fits.name hplan) (fun hm => hX.out.fits.term hplan hm)
     have hcalls' := hid hcalls
     have hstep := hid (qoy hX.out.ends hplan)
     have hbm5 : Hid (Below bm w (wr.drew.setCell ⟨bm, 2, none⟩ (.slice (some ⟨gb, 0, none⟩) vs'.length pc))) := (hX.out.below.trans (hbd.mono (Nat.le_of_lt hst.lt))).setCell (p := ⟨bm, 2, none⟩) (Nat.le_refl _) _
     rw [List.length_cons] at p2 hpc
     obtain ⟨L, hL⟩ : ∃ L, vs'.length = L := ⟨_, rfl⟩
     rw [hL] at p2 hcv hcalls' hbm5 hpc
     have e1 : ((L + 1 : Nat) : Int) - 1 = (L : Int) := by omega
     have e0' : (L : Int) < ((L + 1 : Nat) : Int) := by omega
     have e2 : (L : Int) <= (pc : Int) := by omega
     have e3 : ((L + 1 : Nat) : Int) <= 1099511627777 := by simp only [List.length_cons] at hlimp hpl; omega
     have e4 : (0 : Int) < ((L + 1 : Nat) : Int) := by omega
     obtain ⟨L1, hL1⟩ : ∃ x, L + 1 = x := ⟨_, rfl⟩
     rw [hL1] at e1 e0' e3 e4 p2
     have hplan' := hid hplan
     have d0 : wr.cell? ⟨bm, 2, none⟩ = some (.slice (some ⟨gb, 0, none⟩) L1 pc) := p2
     have df : wr.frozen? ⟨bm, 2, none⟩ = false := qac hst.rdr.box 2
     have hr5 : Hid ((wr.drew.setCell ⟨bm, 2, none⟩ (.slice (some ⟨gb, 0, none⟩) L pc)).heap[w.heap.size]? = some (.cells #[.pointer (some ⟨bm, 0, none⟩)] 163 (0, 0))) := by
       show _ = _
       exact (Below.heap_setCell wr.drew ⟨bm, 2, none⟩ _ w.heap.size (by show w.heap.size ≠ bm; omega)).trans hrb
     have hrw5 : (wr.drew.setCell ⟨bm, 2, none⟩ (.slice (some ⟨gb, 0, none⟩) L pc)).cell? ⟨w.heap.size, 0, none⟩ = some (.pointer (some ⟨bm, 0, none⟩)) := qaa _ w.heap.size 0 _ _ _ hr5.out
     clear hst hrb heb hpc hpm hpl hpop hcalls hlimle hlimp hL hL1 hplan hbd p2
     go_wp2_with fail
     go_still_tail 9, (by kernel_rfl)
     change wpList _ _ _ _ _ wr.drew
     go_wp2_with fail
     refine hcalls'.out.mono ?_
     rintro e w9 ⟨hr, hB⟩
     have hB9 := hbm5.out.trans hB
     clear r0 e0 ef0 hcv e1 e0' e2 e3 e4 d0 df hr5 hrw5 hent hcalls' hbm5 hB
     rcases hstep.out with ⟨τ, hs1, hg⟩ | ⟨τ, n, hs1, ho⟩
     . rw [hs1] at hr
       obtain ⟨rfl, hR9⟩ := hr
       have hX9 : Hid (RI w base bm A c ts o N τ w9) := ⟨hR9, hg, (qdF hs1).fits hplan'.out hX.out.fits, hX.out.lim.step hplan'.out hs1, hB9⟩
       have hph : Hid (phi τ < phi σ') := by
         show _ < _
         have ho := hX.out.lim.ok
         rw [hplan'.out] at ho
         exact (qge hplan'.out (qeB (ho _ (by simp)) hs1) (fun y hy => ho y (by simp [hy]))).1
       clear hR9 hg hs1 hB9
       go_wp2_with fail
       go_roundg (phi τ)
       case rel => exact ⟨τ, rfl, hX9⟩
       case measure => exact hph.out
     . rw [hs1] at hr
       obtain ⟨rfl, hR9⟩ := hr
       subst ho
       obtain ⟨k9, pl9, nm9, tm9, vs9, xs9, hst9⟩ := hR9
       have hrb9 := (hst9.prot _ _ hEr'.out).1
       have heb9 := (hst9.prot _ _ hEe'.out).1
       have q9 : (w9.setCell ⟨w.heap.size + 1, 0, none⟩ (stopV k9 n)).cell? ⟨w.heap.size + 1, 0, none⟩ = some (stopV k9 n) := qaa _ (w.heap.size + 1) 0 _ _ _ (heap_setCell_same w9 (w.heap.size + 1) 0 _ _ (stopV k9 n) heb9)
       refine leaves_cons (f := 137) (args := #[.pointer (some ⟨w.heap.size, 0, none⟩), .pointer (some ⟨w.heap.size + 1, 0, none⟩)]) (by simp) (by simp [go_sem]) ?_
       refine (qmx w.heap.size (w.heap.size + 1) bm k9 n .nilIface w9 (qaa w9 w.heap.size 0 _ _ _ hrb9) (qaa w9 bm 1 _ _ _ hst9.rdr.box) (qaa w9 (w.heap.size + 1) 0 _ _ _ heb9) (qac heb9 0)).mono ?_
       rintro e u' w'' ⟨rfl, rfl, rfl⟩
       refine ⟨stopV k9 n, ?_, w9, k9, rfl, ⟨k9, pl9, nm9, tm9, vs9, xs9, hst9⟩, hB9, rfl⟩
       simp [results, Tryz.results101, go_sem, q9]
theorem qoz (E0 : PE) (base bm : Nat) (A : Option Addr) (c : Nat) (ts : List Tok) (σ : PS) (o : Out) (N : Nat) (w : World) (h : @Rep ⟨E0⟩ w base bm A c ts σ) (g : Ends σ o) (hF : Fits σ) (hL : Lim N σ) (hN : N <= 1099511627776) (hsh : X.Short ts) :
   Calls Tryz.prog 101 #[.pointer (some ⟨bm, 0, none⟩)] w fun e w' => ∃ k, e = .returned (errV k o) /\ @Rep ⟨E0⟩ w' base bm A c ts o.st /\ Below bm w w' := by
 have hlt := @Rep.lt ⟨E0⟩ _ _ _ _ _ _ _ h
 have hb1 := X.qab w (.cells #[.pointer (some ⟨bm, 0, none⟩)] 163)
 have hb2 := hb1.trans ((X.qab (w.alloc (.cells #[.pointer (some ⟨bm, 0, none⟩)] 163)) (.cells #[.nilIface] 129)).mono hb1.size)
 have hr1 : (w.alloc (.cells #[.pointer (some ⟨bm, 0, none⟩)] 163)).heap[w.heap.size]? = some (.cells #[.pointer (some ⟨bm, 0, none⟩)] 163 (0, 0)) := World.alloc_heap_new w _
 have hr2 := (Below.heap_alloc (w.alloc (.cells #[.pointer (some ⟨bm, 0, none⟩)] 163)) (.cells #[.nilIface] 129) w.heap.size (by simp)).trans hr1
 have he2 := World.alloc_heap_new (w.alloc (.cells #[.pointer (some ⟨bm, 0, none⟩)] 163)) (.cells #[.nilIface] 129)
 rw [World.size_alloc] at he2
 obtain ⟨k0, pl0, nm0, tm0, vs0, xs0, h0⟩ := h
 have hlow := @St.low ⟨E0⟩ _ _ _ _ _ _ _ _ _ _ _ _ _ h0
 have hdef : ∀ x o, E0 x = some o -> x < w.heap.size := fun x o hx => by
   obtain ⟨_, _, _, _, _, _, _, _, _, _, _, _, _, _, a15⟩ := h0
   exact (a15 x o hx).2.lt
 obtain ⟨E1, hE1⟩ : ∃ E : PE, E = fun x => if x = w.heap.size then some (.cells #[.pointer (some ⟨bm, 0, none⟩)] 163 (0, 0)) else if x = w.heap.size + 1 then some (.cells #[.nilIface] 129 (0, 0)) else E0 x := ⟨_, rfl⟩
 have hEr : E1 w.heap.size = some (.cells #[.pointer (some ⟨bm, 0, none⟩)] 163 (0, 0)) := by rw [hE1]; simp
 have hEe : E1 (w.heap.size + 1) = some (.cells #[.nilIface] 129 (0, 0)) := by rw [hE1]; simp
 have hEd : ∀ x o, E0 x = some o -> E1 x = some o /\ x ≠ w.heap.size + 1 := fun x o hx => by
   have := hdef x o hx
   rw [hE1]
   show (if x = w.heap.size then _ else if x = w.heap.size + 1 then _ else _) = _ /\ _
   rw [if_neg (by omega), if_neg (by omega)]; exact ⟨hx, by omega⟩
 have h2 := h0.guard (E := E1) hb2 fun x o hx => by
   rw [hE1] at hx
   dsimp only at hx
   split at hx
   . rename_i hxe; subst hxe; cases hx; exact .inr ⟨Nat.le_refl _, hr2, rfl⟩
   . split at hx
     . rename_i hxe; subst hxe; cases hx; exact .inr ⟨by omega, he2, rfl⟩
     . exact .inl hx
 refine (@qqx ⟨E1⟩ base bm A c ts σ o N w ⟨k0, pl0, nm0, tm0, vs0, xs0, h2⟩ hlt hEr hEe g hF hL hN hsh).mono ?_
 rintro e w' ⟨w9, k, rfl, hR, hB, rfl⟩
 obtain ⟨k9, pl9, nm9, tm9, vs9, xs9, h9⟩ := hR
 exact ⟨k, rfl, ⟨k9, pl9, nm9, tm9, vs9, xs9, h9.free_set hEe (by omega) _ hEd⟩, hB.setCell (p := ⟨w.heap.size + 1, 0, none⟩) (by show bm <= w.heap.size + 1; omega) _⟩
end Go.Proofs.YtjnfhebbphdchaaGreatDoor.Pa
