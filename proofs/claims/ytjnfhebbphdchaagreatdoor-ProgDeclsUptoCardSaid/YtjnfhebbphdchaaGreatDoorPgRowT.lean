/-
  A term that came in, opened, for chapter 6's rows. Condition: the row's own.
-/
import Derived.Test.YtjnfhebbphdchaaGreatDoorPgRow
set_option maxRecDepth 100000
namespace Go.Proofs.YtjnfhebbphdchaaGreatDoor
open Go.ChangeShapes Go.WideShapes Go.ChangeAt Go.RowKit Go.Joins Go.Tm Go.Deep
theorem cTm : Tryz.prog.cellsOf 26 = 4 := by kernel_rfl
theorem cI64 : Tryz.prog.cellsOf 2 = 1 := by kernel_rfl
theorem cSl : Tryz.prog.cellsOf 24 = 1 := by kernel_rfl
theorem qrr {W : World} {p : Nat -> Prop} {b : Nat} : ∀ (ks : List Go.Tm.T) (o : Nat), (∀ i, i < ks.length -> qan W p b (o + i * 4) (ks.getD i default)) -> RowAt W p b o ks
 | [], o, _ => by rw [RowAt]; trivial
 | t :: ks, o, h => by
   rw [RowAt]
   refine ⟨by have := h 0 (by simp); simpa using this, qrr ks (o + 4) fun i hi => ?_⟩
   have := h (i + 1) (by simpa using hi)
   rw [show o + 4 + i * 4 = o + (i + 1) * 4 by omega]
   simpa using this
theorem qmp {H : Type} : ∀ (l : List (DataW H)) (d : DataW H), d ∈ l -> Rows.uptoBulk d <= Rows.uptoBulkAll l
 | [], _, h => by cases h
 | x :: l, d, h => by
   rw [Rows.uptoBulkAll]
   rcases List.mem_cons.1 h with rfl | h
   . omega
   . have := qmp l d h
     omega
theorem qkg {H : Type} (D : Nat -> DataW H) (q : Nat -> Go.Tm.T) : ∀ (l : List Nat), (∀ i, i ∈ l -> (q i).size <= Rows.uptoBulk (D i)) -> sizes (l.map q) <= Rows.uptoBulkAll (l.map D)
 | [], _ => by rw [List.map_nil, sizes]; exact Nat.zero_le _
 | i :: l, h => by
   rw [List.map_cons, List.map_cons, sizes, Rows.uptoBulkAll]
   have h1 := h i (by simp)
   have h2 := qkg D q l fun j hj => h j (by simp [hj])
   omega
theorem qhv {H : Type} {enc : TypeId × Value -> H} {W : World} : ∀ (N : Nat) (d : DataW H), Rows.uptoBulk d <= N -> ∀ (fuel : Nat) (cs : List Value) (pl : List MemPlace),
   DataW.trod enc Tryz.prog W 0 (fun _ => true) true fuel 26 cs = some (d, pl) →
   ∃ (t : Go.Tm.T) (A : Option Addr) (c : Nat), cs = [.int .i64 t.kind, .string t.name, .int .i64 t.num, .slice A t.kids.length c] /\ TmV W (· < W.heap.size) t A c /\ t.size <= Rows.uptoBulk d
 | 0, d, hd => by
   have h1 : 1 <= Rows.uptoBulk d := by
     cases d with
     | lit l => cases l <;> simp [Rows.uptoBulk]
     | _ => simp [Rows.uptoBulk]
   omega
 | N + 1, d, hd => by
   intro fuel cs pl h
   obtain ⟨y0, y1, y2, y3, n, hx, hl, u0, u1, u2, u3⟩ := trod_struct4 Tryz.underlying26 h
   rw [cTm] at hl
   match cs, hl with
   | [v0, v1, v2, v3], _ =>
     simp only [cStr, cInt, cI64, cSl, List.drop, List.take] at u0 u1 u2 u3
     obtain ⟨k, e0, d0, _⟩ := DataW.trod_int Tryz.underlying3 u0
     obtain ⟨s, e1, d1, hsz⟩ := DataW.trod_string Tryz.underlying9 u1
     obtain ⟨m, e2, d2, _⟩ := DataW.trod_int Tryz.underlying2 u2
     simp only [List.cons.injEq, and_true] at e0 e1 e2
     subst e0; subst e1; subst e2
     simp only [Prod.mk.injEq] at hx
     have hmax : maxLen = 9223372036854775807 := by rfl
     have hsz' : s.size <= 9223372036854775807 := by omega
     rcases open_slice Tryz.underlying24 u3 with ⟨hcs, hx3⟩ | ⟨a, len, cap, mm, n', D, Pl, hcs, hb, hlc, hm, hmm, hx3, hat⟩
     . simp only [List.cons.injEq, and_true] at hcs
       subst hcs
       refine ⟨.node k s m [], none, 0, rfl, ⟨hsz', .inl rfl⟩, ?_⟩
       rw [hx.1, T.size, sizes]
       simp only [Rows.uptoBulk]
       omega
     . simp only [List.cons.injEq, and_true] at hcs
       subst hcs
       have hbulk : Rows.uptoBulkAll ((List.range len).map D) + 1 < Rows.uptoBulk d := by
         rw [hx.1, hx3]
         simp only [Rows.uptoBulk, Rows.uptoBulkAll]
         have h1 : 1 <= Rows.uptoBulk y0.1 := by rw [d0]; simp [Rows.uptoBulk]
         omega
       have hlm : len <= mm := by rw [hmm]; split <;> omega
       have hspot0 : 0 < len -> a.spot = none := fun h0 => by
         obtain ⟨cs', h1, _⟩ := hat 0 (by omega)
         rw [cTm] at h1
         obtain ⟨_, hlen, hcell⟩ := World.cells?_some h1
         have c0 := hcell 0 (by omega)
         rw [List.getElem?_eq_getElem (by omega)] at c0
         simpa [Addr.add] using World.cell?_spot c0
       have each : ∀ i, i < len -> ∃ t : Go.Tm.T, (∃ ab ao, a = ⟨ab, ao, none⟩ /\ qan W (· < W.heap.size) ab (ao + i * 4) t) /\ t.size <= Rows.uptoBulk (D i) := by
         intro i hi
         obtain ⟨cs', h1, h2⟩ := hat i (by omega)
         rw [cTm] at h1
         obtain ⟨_, hlen, hcell⟩ := World.cells?_some h1
         have hDi : Rows.uptoBulk (D i) <= N := by
           have := qmp ((List.range len).map D) (D i) (List.mem_map.2 ⟨i, List.mem_range.2 hi, rfl⟩)
           omega
         obtain ⟨t, A, c, hcs', hT, hts⟩ := qhv N (D i) hDi n' cs' (Pl i) h2
         subst hcs'
         have c0 := hcell 0 (by omega)
         have c1 := hcell 1 (by omega)
         have c2 := hcell 2 (by omega)
         have c3 := hcell 3 (by omega)
         rw [add_add] at c0 c1 c2 c3
         have hbk : a.block < W.heap.size := by
           have := World.block_lt_of_cell? W _ c0
           have e : (a.add (i * 4 + 0)).block = a.block := by unfold Addr.add; split <;> rfl
           omega
         have hspot : a.spot = none := hspot0 (by omega)
         obtain ⟨ab, ao, spot⟩ := a
         obtain rfl : spot = none := hspot
         rw [Addr.add_lit] at c0 c1 c2 c3
         refine ⟨t, ⟨ab, ao, rfl, ?_⟩, hts⟩
         rw [T.eta t, qan]
         refine ⟨hbk, hT.nsz, by simpa using c0, by simpa [Nat.add_assoc] using c1, by simpa [Nat.add_assoc] using c2, A, c, by simpa [Nat.add_assoc] using c3, hT.row⟩
       obtain ⟨q, hq⟩ := choose_lt each
       have hks : sizes ((List.range len).map q) <= Rows.uptoBulkAll ((List.range len).map D) := qkg D q _ fun i hi => (hq i (List.mem_range.1 hi)).2
       refine ⟨.node k s m ((List.range len).map q), some a, cap, by simp [T.kids, T.kind, T.name, T.num], ⟨hsz', ?_⟩, ?_⟩
       . by_cases h0 : len = 0
         . left; subst h0; rfl
         . right
           obtain ⟨ab, ao, rfl, _⟩ := (hq 0 (by omega)).1
           refine ⟨ab, ao, rfl, qrr _ _ fun i hi => ?_⟩
           have hi' : i < len := by simpa [T.kids] using hi
           obtain ⟨ab', ao', h9, hn⟩ := (hq i hi').1
           cases h9
           have e : ((List.range len).map q).getD i default = q i := by
             rw [List.getD_eq_getElem?_getD, List.getElem?_map, List.getElem?_range hi']; rfl
           show qan W _ ab (ao + i * 4) (((List.range len).map q).getD i default)
           rw [e]; exact hn
       . rw [T.size]; omega
end Go.Proofs.YtjnfhebbphdchaaGreatDoor
