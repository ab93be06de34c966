/-
  ProgMany's walk: true of however many, of whichever kind. Condition: the variables that are read lie as laid.
-/
import Derived.Test.YtjnfhebbphdchaaGreatDoorPgEx
import Derived.Laws.IdiomStrings
import Derived.Maps.AppendAt
namespace Go.Proofs.YtjnfhebbphdchaaGreatDoor.Pg
open Go.RowKit Go.Shelf Go.Tm Go.Lx Go.Maps Go.Proofs.YtjnfhebbphdchaaGreatDoor.Pa
attribute [local go_sem] Oper.semAt_some
theorem qiR (w : World) (x y : Nat) (hx : x < 256) (hy : y < 256) : (convert 29 9 (.slice (some ⟨w.heap.size, 0, none⟩) 2 2)).run Tryz.prog (w.alloc (.cells #[.int .u8 (x : Int), .int .u8 (y : Int)] 5)) = .ok (.string ⟨#[UInt8.ofNat x, UInt8.ofNat y]⟩) (w.alloc (.cells #[.int .u8 (x : Int), .int .u8 (y : Int)] 5)) := by
 have h := run_convert_bytes_back (P := Tryz.prog) (w.alloc (.cells #[.int .u8 (x : Int), .int .u8 (y : Int)] 5)) 29 9 5 ⟨w.heap.size, 0, none⟩ 2 [UInt8.ofNat x, UInt8.ofNat y] Tryz.underlying29 Tryz.underlying5 Tryz.underlying9 (fun j hj => by
   have e : ∀ j, (⟨w.heap.size, 0, none⟩ : Addr).add j = ⟨w.heap.size, j, none⟩ := fun j => by
     unfold Addr.add
     split
     . rename_i h0; subst h0; rfl
     . simp
   rw [e, qaa _ w.heap.size j #[.int .u8 (x : Int), .int .u8 (y : Int)] 5 (0, 0) (World.alloc_heap_new w _)]
   have e2 : (UInt8.ofNat x).toNat = x := by rw [UInt8.toNat_ofNat']; omega
   have e3 : (UInt8.ofNat y).toNat = y := by rw [UInt8.toNat_ofNat']; omega
   match j, hj with
   | 0, _ => show some (Value.int .u8 (x : Int)) = some (Value.int .u8 ((UInt8.ofNat x).toNat : Int)); rw [e2]
   | 1, _ => show some (Value.int .u8 (y : Int)) = some (Value.int .u8 ((UInt8.ofNat y).toNat : Int)); rw [e3]
   | j + 2, hj => exact absurd hj (by show ¬ j + 2 < 2; omega))
 exact h
theorem qpI (k : Nat) : nmV k = ⟨#[118]⟩ ++ ⟨#[UInt8.ofNat (97 + k / 10), UInt8.ofNat (48 + k % 10)]⟩ := by
 apply ByteArray.ext
 rw [ByteArray.data_append]
 rfl
theorem qiS (s : ByteArray) : X.strOf s.data.toList = s := by
 apply ByteArray.ext
 show s.data.toList.toArray = s.data
 simp
theorem qkj (k : Nat) : insN (k + 1) = insN k ++ [⟨nmV k, loS, 0⟩] := by unfold insN; rw [List.range_succ, List.map_append]; rfl
theorem qhw (k : Nat) : qcB (k + 1) = qcB k ++ [⟨nmV k, loS, 3⟩] := by unfold qcB; rw [List.range_succ, List.map_append]; rfl
theorem qih (k : Nat) : defsN (k + 1) = defsN k ++ [⟨nmV k, idT⟩] := by unfold defsN; rw [List.range_succ, List.map_append]; rfl
theorem qsx (k : Nat) : X.strOf (manyS 0 (k + 1)) = ((X.strOf (manyS 0 k) ++ ⟨#[105, 110, 112, 117, 116, 32]⟩) ++ nmV k) ++ ⟨#[32, 58, 32, 76, 111, 32, 46, 32]⟩ := by
 have e : manyS 0 (k + 1) = manyS 0 k ++ ([105, 110, 112, 117, 116, 32] ++ ((nmV k).data.toList ++ [32, 58, 32, 76, 111, 32, 46, 32])) := by
   unfold manyS
   have h0 : ∀ n, pieces (manyP 0 n) = (insN n).map inL := fun n => by rw [qbC, if_pos rfl]
   rw [h0, h0, qkj]
   simp only [List.map_append, List.flatMap_append, List.map_cons, List.map_nil, List.flatMap_cons, List.flatMap_nil, List.append_nil]
   congr 1
 rw [e, qbw, qbw, qbw, qiS, ByteArray.append_assoc, ByteArray.append_assoc]
 rfl
theorem qsy (k : Nat) : X.strOf (manyS 1 (k + 1)) = ((X.strOf (manyS 1 k) ++ ⟨#[99, 101, 108, 108, 32]⟩) ++ nmV k) ++ ⟨#[32, 58, 32, 76, 111, 32, 61, 32, 51, 32, 46, 32]⟩ := by
 have e : manyS 1 (k + 1) = manyS 1 k ++ ([99, 101, 108, 108, 32] ++ ((nmV k).data.toList ++ [32, 58, 32, 76, 111, 32, 61, 32, 51, 32, 46, 32])) := by
   unfold manyS
   have h0 : ∀ n, pieces (manyP 1 n) = (qcB n).map cellL := fun n => by rw [qbC, if_neg (by decide), if_pos rfl]
   rw [h0, h0, qhw]
   simp only [List.map_append, List.flatMap_append, List.map_cons, List.map_nil, List.flatMap_cons, List.flatMap_nil, List.append_nil]
   congr 1
   show qaS [kCell, nm (nmV k), mTok [58], nm loS, mTok [61], dTok 3, dot] ++ [32] = _
   rw [qcl _ (by simp), qcl _ (by simp), qcl _ (by simp), qcl _ (by simp), qcl _ (by simp), qcl _ (by simp), qoW]
   have e3 : (dTok 3).text = [51] := by decide +kernel
   rw [e3]
   show ([99, 101, 108, 108] : List UInt8) ++ 32 :: ((nmV k).data.toList ++ 32 :: ([58] ++ 32 :: ([76, 111] ++ 32 :: ([61] ++ 32 :: ([51] ++ 32 :: [46]))))) ++ [32] = _
   simp
 rw [e, qbw, qbw, qbw, qiS, ByteArray.append_assoc, ByteArray.append_assoc]
 rfl
theorem qsz (k : Nat) : X.strOf (manyS 2 (k + 1)) = ((X.strOf (manyS 2 k) ++ ⟨#[100, 101, 102, 32]⟩) ++ nmV k) ++ ⟨#[32, 61, 32, 102, 117, 110, 32, 120, 32, 61, 62, 32, 120, 32, 46, 32]⟩ := by
 have e : manyS 2 (k + 1) = manyS 2 k ++ ([100, 101, 102, 32] ++ ((nmV k).data.toList ++ [32, 61, 32, 102, 117, 110, 32, 120, 32, 61, 62, 32, 120, 32, 46, 32])) := by
   unfold manyS
   have h0 : ∀ n, pieces (manyP 2 n) = (defsN n).map defL := fun n => by rw [qbC, if_neg (by decide), if_neg (by decide)]
   rw [h0, h0, qih]
   simp only [List.map_append, List.flatMap_append, List.map_cons, List.map_nil, List.flatMap_cons, List.flatMap_nil, List.append_nil]
   congr 1
 rw [e, qbw, qbw, qbw, qiS, ByteArray.append_assoc, ByteArray.append_assoc]
 rfl
def mP (c k : Nat) : P := { manyP c k with body := T0 }
theorem mP_0 (k : Nat) : mP 0 k = ⟨insN k, [], [], T0⟩ := rfl
theorem mP_1 (k : Nat) : mP 1 k = ⟨[], qcB k, [], T0⟩ := rfl
theorem mP_2 (k : Nat) : mP 2 k = ⟨[], [], defsN k, T0⟩ := rfl
theorem qlj (k : Nat) : (nmV k).size = 3 := rfl
theorem qct {c k : Nat} (h : k <= 36) : (X.strOf (manyS c k)).size <= 65536 := by
 have := qmi (k := c) h
 rw [List.length_append] at this
 rw [qfE]; omega
theorem qhx {ty : TypeId} {N : Nat} {W V : World} {bm : Nat} {q : P} {I C F : Value} {xs : List FV} (h : DrT ty N W bm q I C F xs) (hz : V.heap.size = W.heap.size) (hk : ∀ k, k ≠ bm -> V.heap[k]? = W.heap[k]?) {t : Go.Tm.T} {B : Option Addr} {d : Nat} (hT : TmV V (· < V.heap.size) t B d) :
   ∃ IA ic CA cc FA fc, I = .slice IA q.ins.length ic /\ C = .slice CA q.cells.length cc /\ F = .slice FA q.defs.length fc /\ ProgAt V ⟨{ q with body := t }, IA, ic, CA, cc, FA, fc, B, d⟩ := by
 obtain ⟨IA, ic, rfl⟩ := qaK h.oi
 obtain ⟨CA, cc, rfl⟩ := qaK h.oc
 obtain ⟨FA, fc, rfl⟩ := qaK h.of_
 refine ⟨IA, ic, CA, cc, FA, fc, rfl, rfl, rfl, ?_, ?_, ?_, hT⟩
 . exact qgl (qal h.oi fun g hg => hk g (by have := (qaU h.oi hg).1; omega)) h.si
 . exact qgl (qal h.oc fun g hg => hk g (by have := (qaU h.oc hg).1; omega)) h.sc
 . exact qpv h.fs (qal h.of_ fun g hg => hk g (by have := (qaU h.of_ hg).1; omega)) h.sf
     (fun x hx => (h.kids x hx).kept (fun k hk2 => by rw [hz]; exact hk2.2.1) (fun k hk2 => hk k (by have := hk2.1; omega)))
theorem qfG (c k : Nat) : Small (manyP c k) := by
 refine ⟨by rw [qhm]; decide, fun d hd => ?_⟩
 unfold manyP at hd
 split at hd
 . cases hd
 . split at hd
   . cases hd
   . obtain ⟨i, _, rfl⟩ := List.mem_map.1 hd
     show idT.size <= _
     decide
def setB (W : World) (b : Nat) : World := (((W.setCell ⟨b, 3, none⟩ (.int .i64 1)).setCell ⟨b, 4, none⟩ (.string ⟨#[]⟩)).setCell ⟨b, 5, none⟩ (.int .i64 0)).setCell ⟨b, 6, none⟩ (.slice none 0 0)
theorem qfH {W : World} {b x : Nat} (h : x ≠ b) : (setB W b).heap[x]? = W.heap[x]? :=
 (((Below.heap_setCell _ _ _ _ h).trans (Below.heap_setCell _ _ _ _ h)).trans (Below.heap_setCell _ _ _ _ h)).trans (Below.heap_setCell _ _ _ _ h)
theorem qhy {W : World} {b : Nat} {u0 u1 u2 u3 u4 u5 u6 : Value} {ty : TypeId} (h : W.heap[b]? = some (.cells #[u0, u1, u2, u3, u4, u5, u6] ty (0, 0))) : (setB W b).heap[b]? = some (.cells #[u0, u1, u2, .int .i64 1, .string ⟨#[]⟩, .int .i64 0, .slice none 0 0] ty (0, 0)) :=
 heap_setCell_same _ b 6 _ _ _ (heap_setCell_same _ b 5 _ _ _ (heap_setCell_same _ b 4 _ _ _ (heap_setCell_same W b 3 _ _ _ h)))
theorem qfI {n : Nat} {V W : World} {b : Nat} (h : Below n V W) (hb : n <= b) : Below n V (setB W b) :=
 (((h.setCell (p := ⟨b, 3, none⟩) hb _).setCell (p := ⟨b, 4, none⟩) hb _).setCell (p := ⟨b, 5, none⟩) hb _).setCell (p := ⟨b, 6, none⟩) hb _
theorem qhz {W : World} {b : Nat} : (setB W b).heap.size = W.heap.size := by simp [setB]
end Go.Proofs.YtjnfhebbphdchaaGreatDoor.Pg
