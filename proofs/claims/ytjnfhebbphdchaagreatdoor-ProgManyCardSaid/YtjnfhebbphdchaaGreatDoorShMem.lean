/-
  The reference's Size and Depth of a term. Conditions: the term can be read; its size is below 2^62.
  Lists of tokens that are a call's own; the parts that a term is laid of, as values. No condition.
-/
import Derived.Test.YtjnfhebbphdchaaGreatDoorTmSame
import Derived.Test.YtjnfhebbphdchaaGreatDoorShMath
import Derived.Test.YtjnfhebbphdchaaGreatDoorLxBase
namespace Go.Proofs.YtjnfhebbphdchaaGreatDoor
open Go.RowKit Go.Shelf Go.Tm
theorem qaG {W : World} {p : Nat -> Prop} {b o : Nat} : ∀ {t : Go.Tm.T}, qan W p b o t -> ∃ A c, Hdr W p b o t A c /\ TmV W p t A c
 | .node k s n ks, h => by
   have h' := h
   rw [qan] at h'
   obtain ⟨hb, hz, h0, h1, h2, A, c, h3, h4⟩ := h'
   refine ⟨A, c, ⟨hb, hz, h0, h1, h2, h3, fun i hi => ?_⟩, hz, h4⟩
   rcases h4 with rfl | ⟨kb, ko, rfl, h5⟩
   . exact absurd hi (Nat.not_lt_zero i)
   . exact ⟨kb, ko, rfl, RowAt.get i h5 hi⟩
end Go.Proofs.YtjnfhebbphdchaaGreatDoor
namespace Go.Proofs.YtjnfhebbphdchaaGreatDoor
open Go.RowKit Go.Shelf Go.Tm Go.Lx Go.Maps
def tokC (t : Tok) : List Value := [.int .i64 t.kind, .string (X.strOf t.text), .int .i64 t.num]
def toksC (l : List Tok) : List Value := l.flatMap tokC
theorem qeL (a b : List Tok) : toksC (a ++ b) = toksC a ++ toksC b := List.flatMap_append
theorem qiw (t : Tok) (u : Value) (hu : u ∈ tokC t) : u.oneCell' = true := by
 unfold tokC at hu
 simp at hu
 rcases hu with rfl | rfl | rfl <;> rfl
theorem qdH (b o j : Nat) : (⟨b, o, none⟩ : Addr).add j = ⟨b, o + j, none⟩ := by
 unfold Addr.add
 split
 . rename_i h0; subst h0; rfl
 . simp
theorem qgh {W : World} {b : Nat} {t : Tok} {ty : TypeId} (h : W.heap[b]? = some (.cells #[.int .i64 t.kind, .string (X.strOf t.text), .int .i64 t.num] ty (0, 0))) (j : Nat) (u : Value) (hu : (tokC t)[j]? = some u) : W.cell? ((⟨b, 0, none⟩ : Addr).add j) = some u := by
 rw [qdH, Nat.zero_add, qaa _ _ j _ _ _ h, <- hu]
 show ((tokC t).toArray)[j]? = _
 rw [List.getElem?_toArray]
theorem qcc {W : World} {base size n : Nat} {e : TypeId} {v : Value} {xs : List Value} (h : W.ownsRow base e size v n xs) {g : Nat} (hg : v.ownBlock = some g) : ∃ cur, W.heap[g]? = some (.cells cur e (0, 0)) /\ base <= g := by
 obtain ⟨_, ⟨rfl, _⟩ | ⟨g', cap, cur, rfl, hb, hc, _⟩⟩ := h
 . cases hg
 . cases hg; exact ⟨cur, hc, hb⟩
theorem qal {W W' : World} {base size n : Nat} {e : TypeId} {v : Value} {xs : List Value} (h : W.ownsRow base e size v n xs) (he : ∀ g, v.ownBlock = some g -> W'.heap[g]? = W.heap[g]?) : W'.ownsRow base e size v n xs := by
 obtain ⟨h1, h2 | ⟨g, cap, cur, hv, hb, hc, r⟩⟩ := h
 . exact ⟨h1, .inl h2⟩
 . exact ⟨h1, .inr ⟨g, cap, cur, hv, hb, (he g (by rw [hv]; rfl)).trans hc, r⟩⟩
def NewB (w : World) (v v' : Value) : Prop := v'.ownBlock = v.ownBlock ∨ ∃ k, v'.ownBlock = some k /\ w.heap.size <= k
structure Gr (w w' : World) (v v' : Value) : Prop where
 grown : w.grownBy w' v.ownBlock
 new : NewB w v v'
theorem Gr.refl (w : World) (v : Value) : Gr w w v v := ⟨⟨rfl, rfl, rfl, Nat.le_refl _, fun _ _ _ => rfl⟩, .inl rfl⟩
theorem Gr.trans {w w1 w2 : World} {v v1 v2 : Value} (h : Gr w w1 v v1) (k : Gr w1 w2 v1 v2) : Gr w w2 v v2 := by
 refine ⟨⟨k.grown.os.trans h.grown.os, k.grown.tape.trans h.grown.tape, k.grown.output.trans h.grown.output, Nat.le_trans h.grown.size k.grown.size, fun j hj hne => ?_⟩, ?_⟩
 . refine (k.grown.block j (Nat.lt_of_lt_of_le hj h.grown.size) ?_).trans (h.grown.block j hj hne)
   rcases h.new with e | ⟨q, e, hq⟩
   . rw [e]; exact hne
   . rw [e]; intro e2; injection e2 with e2; omega
 . rcases k.new with e | ⟨q, e, hq⟩
   . rcases h.new with e2 | ⟨q2, e2, hq2⟩
     . exact .inl (e.trans e2)
     . exact .inr ⟨q2, e.trans e2, hq2⟩
   . exact .inr ⟨q, e, Nat.le_trans h.grown.size hq⟩
theorem Gr.of_below {w w' : World} {v : Value} (h : Below w.heap.size w w') : Gr w w' v v := ⟨⟨h.os, h.tape, h.output, h.size, fun k hk _ => h.block k hk⟩, .inl rfl⟩
theorem Gr.below {w w' : World} {v v' : Value} {base : Nat} (h : Gr w w' v v') (hb : base <= w.heap.size) (ho : ∀ k, v.ownBlock = some k -> base <= k) : Below base w w' :=
 ⟨h.grown.os, h.grown.tape, h.grown.output, h.grown.size, fun k hk => h.grown.block k (by omega) (fun e => by have := ho k e.symm; omega)⟩
def Out (w : World) (v : Value) (k : Nat) : Prop := k < w.heap.size /\ v.ownBlock ≠ some k
theorem Gr.out {w w' : World} {v v' : Value} (h : Gr w w' v v') {k : Nat} (hk : Out w v k) : Out w' v' k /\ w'.heap[k]? = w.heap[k]? :=
 ⟨⟨Nat.lt_of_lt_of_le hk.1 h.grown.size, by
   rcases h.new with e | ⟨q, e, hq⟩
   . rw [e]; exact hk.2
   . rw [e]; intro e2; injection e2 with e2; have := hk.1; omega⟩, h.grown.block k hk.1 (Ne.symm hk.2)⟩
theorem Gr.tm {w w' : World} {v v' : Value} (h : Gr w w' v v') {t : Go.Tm.T} {A : Option Addr} {c : Nat} (hT : TmV w (Out w v) t A c) : TmV w' (Out w' v') t A c := hT.kept (fun _ hk => (h.out hk).1) (fun _ hk => (h.out hk).2)
theorem Gr.cell {w w' : World} {v v' : Value} (h : Gr w w' v v') {b o : Nat} (hk : Out w v b) : w'.cell? ⟨b, o, none⟩ = w.cell? ⟨b, o, none⟩ := World.cell?_of_block (a := ⟨b, o, none⟩) (h.out hk).2
structure EnvT (w : World) : Prop where
 tab : Lib.TabIs Tryz.prog w "internal/strconv.uint64pow10" .u64 Lib.pow10Tab
 size : 8 <= w.heap.size
theorem EnvT.below {w w' : World} {n : Nat} (h : EnvT w) (hn : 8 <= n) (hb : Below n w w') : EnvT w' where
 tab := by
   have h1 := h.tab
   unfold Lib.TabIs at h1 ⊢
   rw [<- h1]
   simp only [World.var?, X.gPow, Option.bind_some, hb.block 4 (Nat.lt_of_lt_of_le (by decide) hn)]
 size := Nat.le_trans h.size hb.size
abbrev Pt := Tok ⊕ (Go.Tm.T × Option Addr × Nat)
def partV : Pt -> Value
 | .inl x => if x.kind = 3 then .iface 193 (.string (X.strOf x.text)) else if x.kind = 4 then .iface 194 (.string (X.strOf x.text)) else if x.kind = 1 then .iface 192 (.string (X.strOf x.text)) else .iface 191 (.int .i64 x.num)
 | .inr u => .iface 195 (tmV u.1 u.2.1 u.2.2)
def partT : Pt -> List Tok
 | .inl x => [x]
 | .inr u => kidT u.1
def tokOk (x : Tok) : Prop := ((x.kind = 1 ∨ x.kind = 3 ∨ x.kind = 4) /\ x.num = 0) ∨ (x.kind = 2 /\ 0 <= x.num /\ x.num <= 2147483647 /\ x.text = Lib.itoa x.num)
def qcm : Pt -> Prop
 | .inl x => tokOk x
 | .inr _ => True
theorem qmM (ps : List Pt) (k : Nat) (hk : k < ps.length) : (ps.take (k + 1)).flatMap partT = (ps.take k).flatMap partT ++ partT (ps.getD k (.inl ⟨0, [], 0⟩)) := by
 rw [List.take_succ_eq_append_getElem hk, List.flatMap_append, List.getD_eq_getElem?_getD, List.getElem?_eq_getElem hk]
 simp
def qam (base : Nat) (ts new : List Tok) (w : World) (v v' : Value) (w' : World) : Prop := w'.ownsRow base 118 3 v' (ts ++ new).length (toksC (ts ++ new)) /\ Gr w w' v v'
def qaB (u : Go.Tm.T) : Prop := ∀ (base : Nat) (v : Value) (ts : List Tok) (A : Option Addr) (c : Nat) (w : World), 8 <= base -> base <= w.heap.size -> EnvT w -> w.ownsRow base 118 3 v ts.length (toksC ts) -> TmV w (Out w v) u A c -> ts.length + (kidT u).length <= 1099511627776 →
 Calls Tryz.prog 153 #[v, tmV u A c] w fun e w' => ∃ v', e = .returned v' /\ qam base ts (kidT u) w v v' w'
def qbk (u : Go.Tm.T) : Prop := ∀ (base : Nat) (v : Value) (ts : List Tok) (A : Option Addr) (c : Nat) (w : World), 8 <= base -> base <= w.heap.size -> EnvT w -> w.ownsRow base 118 3 v ts.length (toksC ts) -> TmV w (Out w v) u A c -> ts.length + (toksT u).length <= 1099511627776 →
 Calls Tryz.prog 82 #[v, tmV u A c] w fun e w' => ∃ v', e = .returned v' /\ qam base ts (toksT u) w v v' w'
end Go.Proofs.YtjnfhebbphdchaaGreatDoor
