/-
  lay: parts behind a list that is a call's own. Conditions: each kid is laid as it should be; the table of powers lies as laid; at most 2^40 tokens.
  layKid:
  laid:
  laid:
  laid:
  The walk of lex.Print:
  laid of whatever term is right;
  Show.
-/
import Derived.Test.YtjnfhebbphdchaaGreatDoorShMem
import Derived.Test.YtjnfhebbphdchaaGreatDoorShelf
import Derived.Maps.AppendAt
import Derived.Test.YtjnfhebbphdchaaGreatDoorShMath
import Derived.Deep.RegionHeld3
import Derived.Deep.DrawnRows
import Derived.Test.YtjnfhebbphdchaaGreatDoorLxLex
import Derived.Test.YtjnfhebbphdchaaGreatDoorTmRight
set_option maxHeartbeats 8000000
set_option maxRecDepth 100000
open Go.Lib (hid)
namespace Go.Proofs.YtjnfhebbphdchaaGreatDoor
open Go.RowKit Go.Shelf Go.Tm Go.Lx Go.Maps
attribute [local go_sem] Oper.semAt_some
theorem qgk {w wr w1 : World} {v v' v2 : Value} (o : Obj) (h : Gr w wr v v') (hg : (wr.alloc o).grownBy w1 v'.ownBlock) (hat : v2.ownBlock = v'.ownBlock ∨ v2.ownBlock = some (wr.heap.size + 1)) : Gr w w1 v v2 :=
 (h.trans (Gr.of_below (qab wr o))).trans ⟨hg, hat.imp id (fun e => ⟨_, e, by simp⟩)⟩
theorem qcr {W : World} {base size n : Nat} {e : TypeId} {v : Value} {xs : List Value} (h : W.ownsRow base e size v n xs) (o : Obj) : (W.alloc o).ownsRow base e size v n xs := qal h fun g hg => by
 obtain ⟨cur, hc, _⟩ := qcc h hg
 exact Below.heap_alloc W o g (World.lt_of_get hc)
theorem qaM {W W' : World} {base size n : Nat} {e : TypeId} {v : Value} {xs : List Value} (h : W.ownsRow base e size v n xs) (hb : Below W.heap.size W W') : W'.ownsRow base e size v n xs := qal h fun g hg => by
 obtain ⟨cur, hc, _⟩ := qcc h hg
 exact hb.block g (World.lt_of_get hc)
theorem qoO : (Tryz.prog.info? 118).map (fun i => (i.zero, i.size, i.bytes)) = some (some (.agg #[.int .i64 0, .string ⟨#[]⟩, .int .i64 0]), 3, 32) := by kernel_rfl
theorem qnb (v : Value) (w : World) : (Instr.typeAssert (.iface 193 v) 235 193 true).run Tryz.prog w = .ok (.tuple #[v, .bool true]) w := by kernel_rfl
theorem qkS (v : Value) (w : World) : (Instr.typeAssert (.iface 194 v) 235 193 true).run Tryz.prog w = .ok (.tuple #[.string ⟨#[]⟩, .bool false]) w := by kernel_rfl
theorem qjv (v : Value) (w : World) : (Instr.typeAssert (.iface 194 v) 235 194 true).run Tryz.prog w = .ok (.tuple #[v, .bool true]) w := by kernel_rfl
theorem qkT (v : Value) (w : World) : (Instr.typeAssert (.iface 192 v) 235 193 true).run Tryz.prog w = .ok (.tuple #[.string ⟨#[]⟩, .bool false]) w := by kernel_rfl
theorem qjw (v : Value) (w : World) : (Instr.typeAssert (.iface 192 v) 235 194 true).run Tryz.prog w = .ok (.tuple #[.string ⟨#[]⟩, .bool false]) w := by kernel_rfl
theorem qjx (v : Value) (w : World) : (Instr.typeAssert (.iface 192 v) 235 192 true).run Tryz.prog w = .ok (.tuple #[v, .bool true]) w := by kernel_rfl
theorem qnc (v : Value) (w : World) : (Instr.typeAssert (.iface 191 v) 235 193 true).run Tryz.prog w = .ok (.tuple #[.string ⟨#[]⟩, .bool false]) w := by kernel_rfl
theorem qkU (v : Value) (w : World) : (Instr.typeAssert (.iface 191 v) 235 194 true).run Tryz.prog w = .ok (.tuple #[.string ⟨#[]⟩, .bool false]) w := by kernel_rfl
theorem qkV (v : Value) (w : World) : (Instr.typeAssert (.iface 191 v) 235 192 true).run Tryz.prog w = .ok (.tuple #[.string ⟨#[]⟩, .bool false]) w := by kernel_rfl
theorem qnd (v : Value) (w : World) : (Instr.typeAssert (.iface 191 v) 235 191 true).run Tryz.prog w = .ok (.tuple #[v, .bool true]) w := by kernel_rfl
theorem qne (v : Value) (w : World) : (Instr.typeAssert (.iface 195 v) 235 193 true).run Tryz.prog w = .ok (.tuple #[.string ⟨#[]⟩, .bool false]) w := by kernel_rfl
theorem qkW (v : Value) (w : World) : (Instr.typeAssert (.iface 195 v) 235 194 true).run Tryz.prog w = .ok (.tuple #[.string ⟨#[]⟩, .bool false]) w := by kernel_rfl
theorem qkX (v : Value) (w : World) : (Instr.typeAssert (.iface 195 v) 235 192 true).run Tryz.prog w = .ok (.tuple #[.string ⟨#[]⟩, .bool false]) w := by kernel_rfl
theorem qnf (v : Value) (w : World) : (Instr.typeAssert (.iface 195 v) 235 191 true).run Tryz.prog w = .ok (.tuple #[.int .i64 0, .bool false]) w := by kernel_rfl
theorem qng (v : Value) (w : World) : (Instr.typeAssert (.iface 195 v) 235 195 true).run Tryz.prog w = .ok (.tuple #[v, .bool true]) w := by kernel_rfl
attribute [local go_sem] qnb qkS qjv qkT qjw qjx qnc qkU qkV qnd qne qkW qkX qnf qng
def Parts (w : World) (v : Value) (A : Option Addr) (ps : List Pt) : Prop := ps = [] ∨ ∃ b off, A = some ⟨b, off, none⟩ /\ Out w v b /\ ∀ j, j < ps.length -> w.cell? ⟨b, off + j, none⟩ = some (partV (ps.getD j (.inl ⟨0, [], 0⟩)))
theorem Parts.later {w w' : World} {v v' : Value} {A : Option Addr} {ps : List Pt} (h : Parts w v A ps) (hg : Gr w w' v v') : Parts w' v' A ps := by
 rcases h with h | ⟨b, off, h1, h2, h3⟩
 . exact .inl h
 . exact .inr ⟨b, off, h1, (hg.out h2).1, fun j hj => (hg.cell h2).trans (h3 j hj)⟩
theorem qnh (ts : List Tok) (ps : List Pt) (k : Nat) (hk : k < ps.length) : ts ++ (ps.take (k + 1)).flatMap partT = (ts ++ (ps.take k).flatMap partT) ++ partT (ps.getD k (.inl ⟨0, [], 0⟩)) := by
 rw [qmM ps k hk, List.append_assoc]
theorem qfw (ps : List Pt) (k : Nat) : ((ps.take k).flatMap partT).length <= (ps.flatMap partT).length := by
 have h : ps.flatMap partT = (ps.take k).flatMap partT ++ (ps.drop k).flatMap partT := by rw [<- List.flatMap_append, List.take_append_drop]
 rw [h, List.length_append]; omega
theorem qse (ps : List Pt) (hps : ∀ p ∈ ps, qcm p) (HK : ∀ u, .inr u ∈ ps -> qaB u.1) (base : Nat) (v : Value) (ts : List Tok) (A : Option Addr) (c : Nat) (w : World) (h8 : 8 <= base) (hbase : base <= w.heap.size) (hE : EnvT w)
   (hown : w.ownsRow base 118 3 v ts.length (toksC ts)) (hP : Parts w v A ps) (hT : ∀ u, .inr u ∈ ps -> TmV w (Out w v) u.1 u.2.1 u.2.2) (hl : ts.length + (ps.flatMap partT).length <= 1099511627776) (hpl : ps.length <= 1099511627776) :
   Calls Tryz.prog 123 #[v, .slice A ps.length c] w fun e w' => ∃ v', e = .returned v' /\ qam base ts (ps.flatMap partT) w v v' w' := by
 obtain ⟨i0, hi, hi2⟩ := Option.map_eq_some_iff.1 qoO
 obtain ⟨hz0, hz1, hz2⟩ : i0.zero = some (.agg #[.int .i64 0, .string ⟨#[]⟩, .int .i64 0]) /\ i0.size = 3 /\ i0.bytes = 32 := by
   injection hi2 with h1 h2; injection h2 with h2 h3; exact ⟨h1, h2, h3⟩
 replace hi := hid hi
 replace hz0 := hid hz0
 replace hz1 := hid hz1
 replace hz2 := hid hz2
 clear hi2
 obtain ⟨n, hn⟩ : ∃ n, ps.length = n := ⟨_, rfl⟩
 rw [hn] at hpl ⊢
 replace hn := hid hn
 replace hE := hid hE
 replace hown := hid hown
 replace hP := hid hP
 replace hT := hid hT
 replace hps := hid hps
 replace HK := hid HK
 go_enter Tryz.func123, Tryz.ntmps123
 go_wp2_with fail
 go_loopw [0, 14] (fun v1 i wr => ∃ (k : Nat) (v' : Value), k <= n /\ i = .int .i64 k /\ v' = v1 /\ Hid (wr.ownsRow base 118 3 v' (ts ++ (ps.take k).flatMap partT).length (toksC (ts ++ (ps.take k).flatMap partT))) /\ Hid (Gr w wr v v')) (fun _ i _ => n - (intOf i).toNat)
 case atStart => exact ⟨0, v, Nat.zero_le _, rfl, rfl, by rw [List.take_zero, List.flatMap_nil, List.append_nil]; exact hown.out, Gr.refl _ _⟩
 case round =>
   obtain ⟨k, v', hk, rfl, rfl, hO, hG⟩ := hrel
   by_cases hlt : k < n
   case neg =>
     obtain rfl : k = n := by omega
     have hfin : Hid (qam base ts (ps.flatMap partT) w v v' wr) := by
       have h1 := hO.out
       rw [<- hn.out, List.take_length] at h1
       exact ⟨h1, hG.out⟩
     clear hO hG hlt
     go_wp2_with fail
     go_ret
     exact ⟨_, rfl, hfin.out⟩
   have hk9 : k < ps.length := by rw [hn.out]; exact hlt
   have hbw := hG.out.below hbase (fun g hg => (qcc hown.out hg).choose_spec.2)
   have hEr := hid (hE.out.below h8 hbw)
   have hsz : base <= wr.heap.size := Nat.le_trans hbase hbw.size
   clear hbw
   obtain ⟨b, off, rfl, hbo, hcs⟩ := (hP.out.later hG.out).resolve_left (fun e => by rw [e] at hk9; exact absurd hk9 (Nat.not_lt_zero _))
   have hc := hcs k hk9
   have hb1 := hbo.1
   have hsn := hid (qnh ts ps k hk9)
   have hll : (ts ++ (ps.take k).flatMap partT).length <= 1099511627776 := by
     have := qfw ps k
     rw [List.length_append]; omega
   have hll2 : (ts ++ (ps.take (k + 1)).flatMap partT).length <= 1099511627776 := by
     have := qfw ps (k + 1)
     rw [List.length_append]; omega
   have hmem : ps.getD k (.inl ⟨0, [], 0⟩) ∈ ps := by
     rw [List.getD_eq_getElem?_getD, List.getElem?_eq_getElem hk9]
     exact List.getElem_mem _
   have hok := hps.out _ hmem
   obtain ⟨pt, hpt⟩ : ∃ p, ps.getD k (.inl ⟨0, [], 0⟩) = p := ⟨_, rfl⟩
   rw [hpt] at hc hsn hmem hok
   clear hcs hbo hpt
   obtain ⟨L, hL⟩ : ∃ l, ts ++ (ps.take k).flatMap partT = l := ⟨_, rfl⟩
   rw [hL] at hO hsn hll
   replace hL := hid hL
   replace hll2 := hid hll2
   cases pt with
   | inl x =>
     obtain ⟨xk, xt, xn⟩ := x
     replace hok : tokOk ⟨xk, xt, xn⟩ := hok
     clear hmem
     rcases hok with ⟨hxk, hx0⟩ | ⟨hxk, hn0, hn1, hxt⟩
     . replace hx0 : xn = 0 := hx0
       subst hx0
       have hS0 : ∃ S, X.strOf xt = S := ⟨_, rfl⟩
       obtain ⟨S, hS⟩ := hS0
       replace hxk : xk = 1 ∨ xk = 3 ∨ xk = 4 := hxk
       rcases hxk with rfl | rfl | rfl
       . replace hc : wr.cell? ⟨b, off + k, none⟩ = some (.iface 192 (.string (X.strOf xt))) := hc
         rw [hS] at hc
         replace hS := hid hS
         have hown1 := hid (qcr hO.out (.cells #[.int .i64 1, .string S, .int .i64 0] 118))
         have hbx : Hid ((wr.alloc (.cells #[.int .i64 1, .string S, .int .i64 0] 118)).heap[wr.heap.size]? = some (.cells #[.int .i64 1, .string (X.strOf xt), .int .i64 0] 118 (0, 0))) := by show _ = _; rw [hS.out]; exact World.alloc_heap_new _ _
         have hgr := hid (fun (w1 : World) (v2 : Value) => qgk (w1 := w1) (v2 := v2) (.cells #[.int .i64 1, .string S, .int .i64 0] 118) hG.out)
         go_wp2_with (at_builtin; refine wpList_append_own_at _ rfl _ _ 69 rfl base 118 i0 (.agg #[.int .i64 0, .string ⟨#[]⟩, .int .i64 0]) 3 32 Tryz.underlying69 hi.out hz0.out hz1.out hz2.out rfl (by decide) v' _ _ rfl hown1.out ⟨wr.heap.size, 0, none⟩ 1 1 (tokC ⟨1, xt, 0⟩) rfl rfl ?c1 (qiw _) (by unfold maxLen; omega) (by omega) (by simp; omega) ?_)
         case c1 => exact qgh (t := ⟨1, xt, 0⟩) hbx.out
         intro v2 w1 hown2 hgrow _ hat
         have hG2 := hid (hgr.out w1 v2 hgrow hat)
         have hO2 : Hid (w1.ownsRow base 118 3 v2 (ts ++ (ps.take (k + 1)).flatMap partT).length (toksC (ts ++ (ps.take (k + 1)).flatMap partT))) := by
           show w1.ownsRow _ _ _ _ _ _
           rw [hsn.out, qeL, List.length_append]
           show w1.ownsRow _ _ _ _ (L.length + 1) (toksC L ++ toksC [⟨1, xt, 0⟩])
           rw [show toksC [(⟨1, xt, 0⟩ : Tok)] = tokC ⟨1, xt, 0⟩ from List.append_nil _]
           exact hown2
         clear hown2 hgrow hat hgr hbx hown1
         go_wp2_with fail
         go_roundw
         case rel => exact ⟨k + 1, v2, by omega, by go_num, rfl, hO2, hG2⟩
         case measure => simp [intOf]; omega
       . replace hc : wr.cell? ⟨b, off + k, none⟩ = some (.iface 193 (.string (X.strOf xt))) := hc
         rw [hS] at hc
         replace hS := hid hS
         have hown1 := hid (qcr hO.out (.cells #[.int .i64 3, .string S, .int .i64 0] 118))
         have hbx : Hid ((wr.alloc (.cells #[.int .i64 3, .string S, .int .i64 0] 118)).heap[wr.heap.size]? = some (.cells #[.int .i64 3, .string (X.strOf xt), .int .i64 0] 118 (0, 0))) := by show _ = _; rw [hS.out]; exact World.alloc_heap_new _ _
         have hgr := hid (fun (w1 : World) (v2 : Value) => qgk (w1 := w1) (v2 := v2) (.cells #[.int .i64 3, .string S, .int .i64 0] 118) hG.out)
         go_wp2_with (at_builtin; refine wpList_append_own_at _ rfl _ _ 69 rfl base 118 i0 (.agg #[.int .i64 0, .string ⟨#[]⟩, .int .i64 0]) 3 32 Tryz.underlying69 hi.out hz0.out hz1.out hz2.out rfl (by decide) v' _ _ rfl hown1.out ⟨wr.heap.size, 0, none⟩ 1 1 (tokC ⟨3, xt, 0⟩) rfl rfl ?c1 (qiw _) (by unfold maxLen; omega) (by omega) (by simp; omega) ?_)
         case c1 => exact qgh (t := ⟨3, xt, 0⟩) hbx.out
         intro v2 w1 hown2 hgrow _ hat
         have hG2 := hid (hgr.out w1 v2 hgrow hat)
         have hO2 : Hid (w1.ownsRow base 118 3 v2 (ts ++ (ps.take (k + 1)).flatMap partT).length (toksC (ts ++ (ps.take (k + 1)).flatMap partT))) := by
           show w1.ownsRow _ _ _ _ _ _
           rw [hsn.out, qeL, List.length_append]
           show w1.ownsRow _ _ _ _ (L.length + 1) (toksC L ++ toksC [⟨3, xt, 0⟩])
           rw [show toksC [(⟨3, xt, 0⟩ : Tok)] = tokC ⟨3, xt, 0⟩ from List.append_nil _]
           exact hown2
         clear hown2 hgrow hat hgr hbx hown1
         go_wp2_with fail
         go_roundw
         case rel => exact ⟨k + 1, v2, by omega, by go_num, rfl, hO2, hG2⟩
         case measure => simp [intOf]; omega
       . replace hc : wr.cell? ⟨b, off + k, none⟩ = some (.iface 194 (.string (X.strOf xt))) := hc
         rw [hS] at hc
         replace hS := hid hS
         have hown1 := hid (qcr hO.out (.cells #[.int .i64 4, .string S, .int .i64 0] 118))
         have hbx : Hid ((wr.alloc (.cells #[.int .i64 4, .string S, .int .i64 0] 118)).heap[wr.heap.size]? = some (.cells #[.int .i64 4, .string (X.strOf xt), .int .i64 0] 118 (0, 0))) := by show _ = _; rw [hS.out]; exact World.alloc_heap_new _ _
         have hgr := hid (fun (w1 : World) (v2 : Value) => qgk (w1 := w1) (v2 := v2) (.cells #[.int .i64 4, .string S, .int .i64 0] 118) hG.out)
         go_wp2_with (at_builtin; refine wpList_append_own_at _ rfl _ _ 69 rfl base 118 i0 (.agg #[.int .i64 0, .string ⟨#[]⟩, .int .i64 0]) 3 32 Tryz.underlying69 hi.out hz0.out hz1.out hz2.out rfl (by decide) v' _ _ rfl hown1.out ⟨wr.heap.size, 0, none⟩ 1 1 (tokC ⟨4, xt, 0⟩) rfl rfl ?c1 (qiw _) (by unfold maxLen; omega) (by omega) (by simp; omega) ?_)
         case c1 => exact qgh (t := ⟨4, xt, 0⟩) hbx.out
         intro v2 w1 hown2 hgrow _ hat
         have hG2 := hid (hgr.out w1 v2 hgrow hat)
         have hO2 : Hid (w1.ownsRow base 118 3 v2 (ts ++ (ps.take (k + 1)).flatMap partT).length (toksC (ts ++ (ps.take (k + 1)).flatMap partT))) := by
           show w1.ownsRow _ _ _ _ _ _
           rw [hsn.out, qeL, List.length_append]
           show w1.ownsRow _ _ _ _ (L.length + 1) (toksC L ++ toksC [⟨4, xt, 0⟩])
           rw [show toksC [(⟨4, xt, 0⟩ : Tok)] = tokC ⟨4, xt, 0⟩ from List.append_nil _]
           exact hown2
         clear hown2 hgrow hat hgr hbx hown1
         go_wp2_with fail
         go_roundw
         case rel => exact ⟨k + 1, v2, by omega, by go_num, rfl, hO2, hG2⟩
         case measure => simp [intOf]; omega
     . replace hxk : xk = 2 := hxk
       subst hxk
       replace hc : wr.cell? ⟨b, off + k, none⟩ = some (.iface 191 (.int .i64 xn)) := hc
       have kf := hid (Tryz.strconv_FormatInt_10 xn (by have : 0 <= xn := hn0; omega) (by have : xn <= 2147483647 := hn1; omega) wr hEr.out.tab)
       have hS : Hid (X.strOf xt = ⟨(Lib.itoa xn).toArray⟩) := by show _ = _; rw [show xt = Lib.itoa xn from hxt]; rfl
       clear hxt
       obtain ⟨S, hSS⟩ : ∃ S, (⟨(Lib.itoa xn).toArray⟩ : ByteArray) = S := ⟨_, rfl⟩
       rw [hSS] at hS kf
       go_wp2_with fail
       refine kf.out.mono ?_
       rintro e w8 ⟨rfl, kk, os, rfl⟩
       have hb8 : Below wr.heap.size wr (Go.Sort.grow (wr.drewN kk) os) := X.qff wr kk os
       obtain ⟨W8, hW8⟩ : ∃ W, Go.Sort.grow (wr.drewN kk) os = W := ⟨_, rfl⟩
       rw [hW8] at hb8 ⊢
       clear hW8 kf hSS
       have hO8 := hid (qaM hO.out hb8)
       have hG8 := hid (hG.out.trans (Gr.of_below hb8))
       have hsz8 : base <= W8.heap.size := Nat.le_trans hsz hb8.size
       clear hb8 hc hb1
       have hown1 := hid (qcr hO8.out (.cells #[.int .i64 2, .string S, .int .i64 xn] 118))
       have hbx : Hid ((W8.alloc (.cells #[.int .i64 2, .string S, .int .i64 xn] 118)).heap[W8.heap.size]? = some (.cells #[.int .i64 2, .string (X.strOf xt), .int .i64 xn] 118 (0, 0))) := by show _ = _; rw [hS.out]; exact World.alloc_heap_new _ _
       have hgr := hid (fun (w1 : World) (v2 : Value) => qgk (w1 := w1) (v2 := v2) (.cells #[.int .i64 2, .string S, .int .i64 xn] 118) hG8.out)
       go_wp2_with (at_builtin; refine wpList_append_own_at _ rfl _ _ 69 rfl base 118 i0 (.agg #[.int .i64 0, .string ⟨#[]⟩, .int .i64 0]) 3 32 Tryz.underlying69 hi.out hz0.out hz1.out hz2.out rfl (by decide) v' _ _ rfl hown1.out ⟨W8.heap.size, 0, none⟩ 1 1 (tokC ⟨2, xt, xn⟩) rfl rfl ?c1 (qiw _) (by unfold maxLen; omega) (by omega) (by simp; omega) ?_)
       case c1 => exact qgh (t := ⟨2, xt, xn⟩) hbx.out
       intro v2 w1 hown2 hgrow _ hat
       have hG2 := hid (hgr.out w1 v2 hgrow hat)
       have hO2 : Hid (w1.ownsRow base 118 3 v2 (ts ++ (ps.take (k + 1)).flatMap partT).length (toksC (ts ++ (ps.take (k + 1)).flatMap partT))) := by
         show w1.ownsRow _ _ _ _ _ _
         rw [hsn.out, qeL, List.length_append]
         show w1.ownsRow _ _ _ _ (L.length + 1) (toksC L ++ toksC [⟨2, xt, xn⟩])
         rw [show toksC [(⟨2, xt, xn⟩ : Tok)] = tokC ⟨2, xt, xn⟩ from List.append_nil _]
         exact hown2
       clear hown2 hgrow hat hgr hbx hown1
       go_wp2_with fail
       go_roundw
       case rel => exact ⟨k + 1, v2, by omega, by go_num, rfl, hO2, hG2⟩
       case measure => simp [intOf]; omega
   | inr u =>
     obtain ⟨u, UA, uc⟩ := u
     have hTu := hG.out.tm (hT.out _ hmem)
     have hsn2 : Hid (ts ++ (ps.take (k + 1)).flatMap partT = L ++ kidT u) := hsn
     have hbox : TmV (wr.alloc (.cells #[.int .i64 u.kind, .string u.name, .int .i64 u.num, .slice UA u.kids.length uc] 195)) (Out (wr.alloc (.cells #[.int .i64 u.kind, .string u.name, .int .i64 u.num, .slice UA u.kids.length uc] 195)) v') u UA uc := (Gr.of_below (qab wr _)).tm hTu
     have kk := HK.out _ hmem base v' L UA uc _ h8 (Nat.le_trans hsz (by simp)) (hEr.out.below (Nat.le_refl _) ((qab wr (.cells #[.int .i64 u.kind, .string u.name, .int .i64 u.num, .slice UA u.kids.length uc] 195)).mono hEr.out.size)) (qcr hO.out _) hbox (by have := hll2.out; rw [hsn2.out, List.length_append] at this; exact this)
     replace hc : wr.cell? ⟨b, off + k, none⟩ = some (.iface 195 (tmV u UA uc)) := hc
     unfold tmV at kk hc
     have hGa := hid (hG.out.trans (Gr.of_below (qab wr (.cells #[.int .i64 u.kind, .string u.name, .int .i64 u.num, .slice UA u.kids.length uc] 195))))
     replace kk := hid kk
     clear hTu hbox hmem hok
     go_wp2_with fail
     refine kk.out.mono ?_
     rintro e w4 ⟨v4, rfl, hp4⟩
     have hG2 := hid (hGa.out.trans hp4.2)
     have hO2 : Hid (w4.ownsRow base 118 3 v4 (ts ++ (ps.take (k + 1)).flatMap partT).length (toksC (ts ++ (ps.take (k + 1)).flatMap partT))) := by show w4.ownsRow _ _ _ _ _ _; rw [hsn2.out]; exact hp4.1
     clear hp4 kk hGa
     go_wp2_with fail
     go_roundw
     case rel => exact ⟨k + 1, v4, by omega, by go_num, rfl, hO2, hG2⟩
     case measure => simp [intOf]; omega
theorem qoP (t : List UInt8) : qcm (.inl (mTok t)) := .inl ⟨.inr (.inr rfl), rfl⟩
theorem qam.of {base : Nat} {ts new : List Tok} {w V w' : World} {v v1 v' : Value} (hg : Gr w V v v1) (h : qam base ts new V v1 v' w') : qam base ts new w v v' w' := ⟨h.1, hg.trans h.2⟩
theorem qam.app {base : Nat} {ts a b : List Tok} {w V w' : World} {v v1 v' : Value} (h : qam base ts a w v v1 V) (k : qam base (ts ++ a) b V v1 v' w') : qam base ts (a ++ b) w v v' w' := ⟨by rw [<- List.append_assoc]; exact k.1, h.2.trans k.2⟩
theorem qoQ (V : World) (v : Value) (hv : ∀ k, v.ownBlock = some k -> k < V.heap.size) (ps : List Pt) (ty : TypeId) : Parts (V.alloc (.cells (ps.map partV).toArray ty)) v (some ⟨V.heap.size, 0, none⟩) ps := .inr ⟨V.heap.size, 0, rfl, ⟨by simp, fun e => by have := hv _ e; omega⟩, fun j hj => by
 rw [Nat.zero_add, qaa _ V.heap.size j _ _ _ (World.alloc_heap_new V _), List.getElem?_toArray, List.getElem?_map, List.getD_eq_getElem?_getD, List.getElem?_eq_getElem hj]; rfl⟩
theorem qcx {W : World} {base size n : Nat} {e : TypeId} {v : Value} {xs : List Value} (h : W.ownsRow base e size v n xs) (k : Nat) (hk : v.ownBlock = some k) : k < W.heap.size := by
 obtain ⟨cur, hc, _⟩ := qcc h hk
 exact World.lt_of_get hc
theorem qbP (ps : List Pt) (hps : ∀ p ∈ ps, qcm p) (HK : ∀ u, .inr u ∈ ps -> qaB u.1) (base : Nat) (v : Value) (ts : List Tok) (c : Nat) (V : World) (ty : TypeId) (h8 : 8 <= base) (hbase : base <= V.heap.size) (hE : EnvT V)
   (hown : V.ownsRow base 118 3 v ts.length (toksC ts)) (hT : ∀ u, .inr u ∈ ps -> TmV V (Out V v) u.1 u.2.1 u.2.2) (hl : ts.length + (ps.flatMap partT).length <= 1099511627776) (hpl : ps.length <= 1099511627776) :
   Calls Tryz.prog 123 #[v, .slice (some ⟨V.heap.size, 0, none⟩) ps.length c] (V.alloc (.cells (ps.map partV).toArray ty)) fun e w' => ∃ v', e = .returned v' /\ qam base ts (ps.flatMap partT) V v v' w' := by
 have hb := qab V (.cells (ps.map partV).toArray ty)
 have hg : Gr V (V.alloc (.cells (ps.map partV).toArray ty)) v v := Gr.of_below hb
 exact (qse ps hps HK base v ts _ c _ h8 (Nat.le_trans hbase hb.size) (hE.below (Nat.le_refl _) (hb.mono hE.size)) (qcr hown _) (qoQ V v (qcx hown) ps ty) (fun u hu => hg.tm (hT u hu)) hl hpl).mono fun e w' ⟨v', h1, h2⟩ => ⟨v', h1, h2.of hg⟩
theorem qaC (u : Go.Tm.T) (HL : qbk u) : qaB u := fun base v ts A c w h8 hbase hE hown hT hl => by
 have hbV : Below w.heap.size w (w.alloc (.cells #[.int .i64 u.kind, .string u.name, .int .i64 u.num, .slice A u.kids.length c] 26)) := qab _ _
 have hbx : (w.alloc (.cells #[.int .i64 u.kind, .string u.name, .int .i64 u.num, .slice A u.kids.length c] 26)).heap[w.heap.size]? = some (.cells #[.int .i64 u.kind, .string u.name, .int .i64 u.num, .slice A u.kids.length c] 26 (0, 0)) := World.alloc_heap_new _ _
 have hVs : (w.alloc (.cells #[.int .i64 u.kind, .string u.name, .int .i64 u.num, .slice A u.kids.length c] 26)).heap.size = w.heap.size + 1 := by simp
 have hol := qcx hown
 unfold qbk at HL
 unfold tmV at HL ⊢
 obtain ⟨V, hV⟩ : ∃ V, w.alloc (.cells #[.int .i64 u.kind, .string u.name, .int .i64 u.num, .slice A u.kids.length c] 26) = V := ⟨_, rfl⟩
 rw [hV] at hbV hbx hVs
 have hgV : Gr w V v v := Gr.of_below hbV
 have hEV := hE.below (Nat.le_refl _) (hbV.mono hE.size)
 have hOV := qaM hown hbV
 have hTV := hgV.tm hT
 have hbs : base <= V.heap.size := Nat.le_trans hbase hbV.size
 have hout : Out V v w.heap.size := ⟨by omega, fun e => by have := hol _ e; omega⟩
 have hkt : Hid ((leafK u.kind = true -> kidT u = toksT u) /\ (leafK u.kind = false -> kidT u = mTok [40] :: (toksT u ++ [mTok [41]]))) := ⟨qdV, qev⟩
 have i0 := qaa V w.heap.size 0 _ _ _ hbx
 have i1 := qaa V w.heap.size 1 _ _ _ hbx
 have i2 := qaa V w.heap.size 2 _ _ _ hbx
 have i3 := qaa V w.heap.size 3 _ _ _ hbx
 have hlv : w.heap.size < V.heap.size := by omega
 clear hol hbV hE hown hT
 replace hVs := hid hVs
 replace hbx := hid hbx
 replace hV := hid hV
 cases hlf : leafK u.kind with
 | true =>
   have hk2 := hkt.out.1 hlf
   rw [hk2] at hl
   have kl := hid (HL base v ts A c V h8 hbs hEV hOV hTV hl)
   replace hk2 := hid hk2
   have hend : Hid (∀ v' w', qam base ts (toksT u) V v v' w' -> qam base ts (kidT u) w v v' w') := fun v' w' h => by rw [hk2.out]; exact h.of hgV
   replace hgV := hid hgV
   clear HL hEV hOV hTV hout hkt
   cases h1 : (u.kind == 1) with
   | true =>
     clear hlf
     go_enter Tryz.func153, Tryz.ntmps153
     go_wp2_with fail
     try rw [hV.out]
     go_wp2_with fail
     refine kl.out.mono ?_
     rintro e w1 ⟨v1, rfl, hp⟩
     replace hp := hid (hend.out _ _ hp)
     go_wp2_with fail
     go_ret
     exact ⟨_, rfl, hp.out⟩
   | false =>
     have h2 : (u.kind == 2) = true := by unfold leafK at hlf; rw [h1] at hlf; simpa using hlf
     clear hlf
     go_enter Tryz.func153, Tryz.ntmps153
     go_wp2_with fail
     try rw [hV.out]
     go_wp2_with fail
     refine kl.out.mono ?_
     rintro e w1 ⟨v1, rfl, hp⟩
     replace hp := hid (hend.out _ _ hp)
     go_wp2_with fail
     go_ret
     exact ⟨_, rfl, hp.out⟩
 | false =>
   have hk2 := hkt.out.2 hlf
   have hl2 : ts.length + (toksT u).length + 2 <= 1099511627776 := by rw [hk2] at hl; simp at hl; omega
   have h1 : (u.kind == 1) = false := by unfold leafK at hlf; cases h : (u.kind == 1) <;> rw [h] at hlf <;> simp_all
   have h2 : (u.kind == 2) = false := by unfold leafK at hlf; cases h : (u.kind == 2) <;> rw [h] at hlf <;> simp_all
   have k1 := qbP [.inl (mTok [40])] (fun p hp => by obtain rfl := List.mem_singleton.1 hp; exact qoP _) (fun u hu => by cases List.mem_singleton.1 hu) base v ts 1 V 235 h8 hbs hEV hOV (fun u hu => by cases List.mem_singleton.1 hu) (by show ts.length + 1 <= _; omega) (by decide)
   replace k1 : Calls Tryz.prog 123 #[v, .slice (some ⟨V.heap.size, 0, none⟩) 1 1] (V.alloc (.cells #[.iface 194 (.string ⟨#[40]⟩)] 235)) fun e w' => ∃ v', e = .returned v' /\ qam base ts [mTok [40]] V v v' w' := k1
   rw [hVs.out] at k1
   replace k1 := hid k1
   have hob := hid (fun k hk => (qcc hOV (g := k) hk).choose_spec.2)
   replace hk2 := hid hk2
   replace HL := hid HL
   replace hEV := hid hEV
   replace hTV := hid hTV
   replace hgV := hid hgV
   replace hout := hid hout
   clear hlf hOV hkt hl
   go_enter Tryz.func153, Tryz.ntmps153
   go_wp2_with fail
   try rw [hV.out]
   go_wp2_with fail
   refine k1.out.mono ?_
   rintro e w1 ⟨v1, rfl, hp1⟩
   clear k1 i0 i1 i2 i3
   have hx1 := (hp1.2.out hout.out).2.trans hbx.out
   have ho1 := (hp1.2.out hout.out).1
   have hb1 := hp1.2.below hbs hob.out
   have hbs1 : base <= w1.heap.size := Nat.le_trans hbs hb1.size
   have hE1 := hEV.out.below h8 hb1
   have kl := hid (HL.out base v1 (ts ++ [mTok [40]]) A c w1 h8 hbs1 hE1 hp1.1 (hp1.2.tm hTV.out) (by rw [List.length_append]; show ts.length + 1 + _ <= _; omega))
   have i0 := qaa w1 w.heap.size 0 _ _ _ hx1
   have i1 := qaa w1 w.heap.size 1 _ _ _ hx1
   have i2 := qaa w1 w.heap.size 2 _ _ _ hx1
   have i3 := qaa w1 w.heap.size 3 _ _ _ hx1
   have hl1 := World.lt_of_get hx1
   replace hp1 := hid hp1
   replace hE1 := hid hE1
   replace ho1 := hid ho1
   clear hx1 hb1
   go_wp2_with fail
   refine kl.out.mono ?_
   rintro e w2 ⟨v2, rfl, hp2⟩
   clear kl i0 i1 i2 i3
   have hb2 := hp2.2.below hbs1 (fun k hk => (qcc hp1.out.1 (g := k) hk).choose_spec.2)
   have hbs2 : base <= w2.heap.size := Nat.le_trans hbs1 hb2.size
   have hE2 := hE1.out.below h8 hb2
   have k3 := qbP [.inl (mTok [41])] (fun p hp => by obtain rfl := List.mem_singleton.1 hp; exact qoP _) (fun u hu => by cases List.mem_singleton.1 hu) base v2 _ 1 w2 235 h8 hbs2 hE2 hp2.1 (fun u hu => by cases List.mem_singleton.1 hu) (by rw [List.length_append, List.length_append]; show ts.length + 1 + _ + 1 <= _; omega) (by decide)
   replace k3 : Calls Tryz.prog 123 #[v2, .slice (some ⟨w2.heap.size, 0, none⟩) 1 1] (w2.alloc (.cells #[.iface 194 (.string ⟨#[41]⟩)] 235)) fun e w' => ∃ v', e = .returned v' /\ qam base ((ts ++ [mTok [40]]) ++ toksT u) [mTok [41]] w2 v2 v' w' := k3
   replace k3 := hid k3
   replace hp2 := hid hp2
   clear hb2 hE2
   go_wp2_with fail
   refine k3.out.mono ?_
   rintro e w3 ⟨v3, rfl, hp3⟩
   have hend : Hid (qam base ts (kidT u) w v v3 w3) := by
     show qam _ _ _ _ _ _ _
     have h := (hp1.out.app (hp2.out.app hp3)).of hgV.out
     rw [hk2.out]
     exact h
   clear hp3 k3
   go_wp2_with fail
   go_ret
   exact ⟨_, rfl, hend.out⟩
theorem qsS (n : Int) (h0 : 0 <= n) (h1 : n <= 2147483647)   : qbk (.node 1 ⟨#[]⟩ n []) := fun base v ts A c w h8 hbase hE hown hT hl => by
 have hbV : Below w.heap.size w (w.alloc (.cells #[.int .i64 1, .string ⟨#[]⟩, .int .i64 n, .slice A 0 c] 26)) := qab _ _
 have hbx : (w.alloc (.cells #[.int .i64 1, .string ⟨#[]⟩, .int .i64 n, .slice A 0 c] 26)).heap[w.heap.size]? = some (.cells #[.int .i64 1, .string ⟨#[]⟩, .int .i64 n, .slice A 0 c] 26 (0, 0)) := World.alloc_heap_new _ _
 have hVs : (w.alloc (.cells #[.int .i64 1, .string ⟨#[]⟩, .int .i64 n, .slice A 0 c] 26)).heap.size = w.heap.size + 1 := by simp
 show Calls Tryz.prog 82 #[v, .agg #[.int .i64 1, .string ⟨#[]⟩, .int .i64 n, .slice A 0 c]] w _
 obtain ⟨V, hV⟩ : ∃ V, w.alloc (.cells #[.int .i64 1, .string ⟨#[]⟩, .int .i64 n, .slice A 0 c] 26) = V := ⟨_, rfl⟩
 rw [hV] at hbV hbx hVs
 have hbW : Below w.heap.size w V := hbV
 have hgW : Gr w V v v := Gr.of_below hbW
 have hEW := hE.below (Nat.le_refl _) (hbW.mono hE.size)
 have hOW := qaM hown hbW
 have hTW := hgW.tm hT
 have hbs : base <= (V).heap.size := Nat.le_trans hbase hbW.size
 have i0 := qaa V w.heap.size 0 _ _ _ hbx
 have i1 := qaa V w.heap.size 1 _ _ _ hbx
 have i2 := qaa V w.heap.size 2 _ _ _ hbx
 have i3 := qaa V w.heap.size 3 _ _ _ hbx
 have hlv : w.heap.size < V.heap.size := by omega
 have hlen : ts.length + (([.inl (dTok n)] : List Pt).flatMap partT).length <= 1099511627776 := by rw [qdp] at hl; simpa [partT] using hl
 have hok : ∀ p ∈ ([.inl (dTok n)] : List Pt), qcm p := by
   intro p hp
   simp only [List.mem_cons, List.not_mem_nil, or_false] at hp
   subst hp; exact .inr ⟨rfl, h0, h1, rfl⟩
 have hkk : ∀ u, .inr u ∈ ([.inl (dTok n)] : List Pt) -> qaB u.1 := by
   intro u hu
   simp at hu
 have htt : ∀ u, .inr u ∈ ([.inl (dTok n)] : List Pt) -> TmV V (Out V v) u.1 u.2.1 u.2.2 := by
   intro u hu
   simp at hu
 have kl0 := qbP [.inl (dTok n)] hok hkk base v ts 1 V 235 h8 hbs hEW hOW htt hlen (by show 1 <= _; decide)
 have kl : Calls Tryz.prog 123 #[v, .slice (some ⟨V.heap.size, 0, none⟩) 1 1] (V.alloc (.cells #[.iface 191 (.int .i64 n)] 235)) fun e w' => ∃ v', e = .returned v' /\ qam base ts (([.inl (dTok n)] : List Pt).flatMap partT) V v v' w' := kl0
 rw [hVs] at kl
 replace kl := hid kl
 have hend : Hid (∀ v' w', qam base ts (([.inl (dTok n)] : List Pt).flatMap partT) V v v' w' -> qam base ts (toksT (.node 1 ⟨#[]⟩ n [])) w v v' w') := fun v' w' h => by
   have e : toksT (.node 1 ⟨#[]⟩ n []) = ([.inl (dTok n)] : List Pt).flatMap partT := by rw [qdp]; first | rfl | simp [partT]
   rw [e]; exact h.of hgW
 clear kl0 hbV hbW hgW hEW hOW hTW hT hown hE hok hkk htt hlen hl
 replace hbx := hid hbx
 replace hV := hid hV
 go_enter Tryz.func82, Tryz.ntmps82
 go_wp2_with fail
 try rw [hV.out]
 go_wp2_with fail
 refine kl.out.mono ?_
 rintro e w1 ⟨v1, rfl, hp⟩
 replace hp := hid (hend.out _ _ hp)
 clear kl
 go_wp2_with fail
 go_ret
 exact ⟨_, rfl, hp.out⟩
theorem qsT (s : ByteArray)    : qbk (.node 2 s 0 []) := fun base v ts A c w h8 hbase hE hown hT hl => by
 have hbV : Below w.heap.size w (w.alloc (.cells #[.int .i64 2, .string s, .int .i64 0, .slice A 0 c] 26)) := qab _ _
 have hbx : (w.alloc (.cells #[.int .i64 2, .string s, .int .i64 0, .slice A 0 c] 26)).heap[w.heap.size]? = some (.cells #[.int .i64 2, .string s, .int .i64 0, .slice A 0 c] 26 (0, 0)) := World.alloc_heap_new _ _
 have hVs : (w.alloc (.cells #[.int .i64 2, .string s, .int .i64 0, .slice A 0 c] 26)).heap.size = w.heap.size + 1 := by simp
 show Calls Tryz.prog 82 #[v, .agg #[.int .i64 2, .string s, .int .i64 0, .slice A 0 c]] w _
 obtain ⟨V, hV⟩ : ∃ V, w.alloc (.cells #[.int .i64 2, .string s, .int .i64 0, .slice A 0 c] 26) = V := ⟨_, rfl⟩
 rw [hV] at hbV hbx hVs
 have hbW : Below w.heap.size w V := hbV
 have hgW : Gr w V v v := Gr.of_below hbW
 have hEW := hE.below (Nat.le_refl _) (hbW.mono hE.size)
 have hOW := qaM hown hbW
 have hTW := hgW.tm hT
 have hbs : base <= (V).heap.size := Nat.le_trans hbase hbW.size
 have i0 := qaa V w.heap.size 0 _ _ _ hbx
 have i1 := qaa V w.heap.size 1 _ _ _ hbx
 have i2 := qaa V w.heap.size 2 _ _ _ hbx
 have i3 := qaa V w.heap.size 3 _ _ _ hbx
 have hlv : w.heap.size < V.heap.size := by omega
 have hlen : ts.length + (([.inl (nTok s.data.toList)] : List Pt).flatMap partT).length <= 1099511627776 := by rw [qed] at hl; simpa [partT] using hl
 have hok : ∀ p ∈ ([.inl (nTok s.data.toList)] : List Pt), qcm p := by
   intro p hp
   simp only [List.mem_cons, List.not_mem_nil, or_false] at hp
   subst hp; exact .inl ⟨.inl rfl, rfl⟩
 have hkk : ∀ u, .inr u ∈ ([.inl (nTok s.data.toList)] : List Pt) -> qaB u.1 := by
   intro u hu
   simp at hu
 have htt : ∀ u, .inr u ∈ ([.inl (nTok s.data.toList)] : List Pt) -> TmV V (Out V v) u.1 u.2.1 u.2.2 := by
   intro u hu
   simp at hu
 have kl0 := qbP [.inl (nTok s.data.toList)] hok hkk base v ts 1 V 235 h8 hbs hEW hOW htt hlen (by show 1 <= _; decide)
 have kl : Calls Tryz.prog 123 #[v, .slice (some ⟨V.heap.size, 0, none⟩) 1 1] (V.alloc (.cells #[.iface 192 (.string s)] 235)) fun e w' => ∃ v', e = .returned v' /\ qam base ts (([.inl (nTok s.data.toList)] : List Pt).flatMap partT) V v v' w' := kl0
 rw [hVs] at kl
 replace kl := hid kl
 have hend : Hid (∀ v' w', qam base ts (([.inl (nTok s.data.toList)] : List Pt).flatMap partT) V v v' w' -> qam base ts (toksT (.node 2 s 0 [])) w v v' w') := fun v' w' h => by
   have e : toksT (.node 2 s 0 []) = ([.inl (nTok s.data.toList)] : List Pt).flatMap partT := by rw [qed]; first | rfl | simp [partT]
   rw [e]; exact h.of hgW
 clear kl0 hbV hbW hgW hEW hOW hTW hT hown hE hok hkk htt hlen hl
 replace hbx := hid hbx
 replace hV := hid hV
 go_enter Tryz.func82, Tryz.ntmps82
 go_wp2_with fail
 try rw [hV.out]
 go_wp2_with fail
 refine kl.out.mono ?_
 rintro e w1 ⟨v1, rfl, hp⟩
 replace hp := hid (hend.out _ _ hp)
 clear kl
 go_wp2_with fail
 go_ret
 exact ⟨_, rfl, hp.out⟩
theorem qsU (s : ByteArray)  (a : Go.Tm.T) (Ha : qaB a) : qbk (.node 3 s 0 [a]) := fun base v ts A c w h8 hbase hE hown hT hl => by
 have hbV : Below w.heap.size w (w.alloc (.cells #[.int .i64 3, .string s, .int .i64 0, .slice A 1 c] 26)) := qab _ _
 have hbx : (w.alloc (.cells #[.int .i64 3, .string s, .int .i64 0, .slice A 1 c] 26)).heap[w.heap.size]? = some (.cells #[.int .i64 3, .string s, .int .i64 0, .slice A 1 c] 26 (0, 0)) := World.alloc_heap_new _ _
 have hVs : (w.alloc (.cells #[.int .i64 3, .string s, .int .i64 0, .slice A 1 c] 26)).heap.size = w.heap.size + 1 := by simp
 show Calls Tryz.prog 82 #[v, .agg #[.int .i64 3, .string s, .int .i64 0, .slice A 1 c]] w _
 obtain ⟨V, hV⟩ : ∃ V, w.alloc (.cells #[.int .i64 3, .string s, .int .i64 0, .slice A 1 c] 26) = V := ⟨_, rfl⟩
 rw [hV] at hbV hbx hVs
 have hbW : Below w.heap.size w V.drew := hbV.drew
 have hgW : Gr w V.drew v v := Gr.of_below hbW
 have hEW := hE.below (Nat.le_refl _) (hbW.mono hE.size)
 have hOW := qaM hown hbW
 have hTW := hgW.tm hT
 have hbs : base <= (V.drew).heap.size := Nat.le_trans hbase hbW.size
 have i0 := qaa V w.heap.size 0 _ _ _ hbx
 have i1 := qaa V w.heap.size 1 _ _ _ hbx
 have i2 := qaa V w.heap.size 2 _ _ _ hbx
 have i3 := qaa V w.heap.size 3 _ _ _ hbx
 have hlv : w.heap.size < V.heap.size := by omega
 have hob : Out V.drew v w.heap.size := ⟨hlv, fun e => by have := qcx hown _ e; omega⟩
 obtain ⟨kb, ko, rfl, hrow⟩ := hTW.row.resolve_left (fun e => by cases e)
 obtain ⟨Aa, ca, hha, hva⟩ := qaG (hrow.get 0 (by show _ < 1; decide))
 replace hva : TmV V.drew (Out V.drew v) a Aa ca := hva
 have ac0 : V.cell? ⟨kb, ko, none⟩ = some (.int .i64 a.kind) := hha.kind
 have ac1 : V.cell? ⟨kb, ko + 1, none⟩ = some (.string a.name) := hha.name
 have ac2 : V.cell? ⟨kb, ko + 2, none⟩ = some (.int .i64 a.num) := hha.num
 have ac3 : V.cell? ⟨kb, ko + 3, none⟩ = some (.slice Aa a.kids.length ca) := hha.kids
 have hkba : kb < V.heap.size := hha.at_.1
 have hokb : Out V.drew v kb := hha.at_
 clear hha
 clear hrow
 have hlen : ts.length + (([.inl (kTok [102, 117, 110]), .inl (nTok s.data.toList), .inl (mTok [61, 62]), .inr (a, Aa, ca)] : List Pt).flatMap partT).length <= 1099511627776 := by rw [qfL] at hl; simpa [partT] using hl
 have hok : ∀ p ∈ ([.inl (kTok [102, 117, 110]), .inl (nTok s.data.toList), .inl (mTok [61, 62]), .inr (a, Aa, ca)] : List Pt), qcm p := by
   intro p hp
   simp only [List.mem_cons, List.not_mem_nil, or_false] at hp
   rcases hp with rfl | rfl | rfl | rfl
   . exact .inl ⟨.inr (.inl rfl), rfl⟩
   . exact .inl ⟨.inl rfl, rfl⟩
   . exact .inl ⟨.inr (.inr rfl), rfl⟩
   . exact trivial
 have hkk : ∀ u, .inr u ∈ ([.inl (kTok [102, 117, 110]), .inl (nTok s.data.toList), .inl (mTok [61, 62]), .inr (a, Aa, ca)] : List Pt) -> qaB u.1 := by
   intro u hu
   simp at hu
   subst hu; exact Ha
 have htt : ∀ u, .inr u ∈ ([.inl (kTok [102, 117, 110]), .inl (nTok s.data.toList), .inl (mTok [61, 62]), .inr (a, Aa, ca)] : List Pt) -> TmV V.drew (Out V.drew v) u.1 u.2.1 u.2.2 := by
   intro u hu
   simp at hu
   subst hu; exact hva
 have kl0 := qbP [.inl (kTok [102, 117, 110]), .inl (nTok s.data.toList), .inl (mTok [61, 62]), .inr (a, Aa, ca)] hok hkk base v ts 4 V.drew 235 h8 hbs hEW hOW htt hlen (by show 4 <= _; decide)
 have kl : Calls Tryz.prog 123 #[v, .slice (some ⟨V.heap.size, 0, none⟩) 4 4] (V.drew.alloc (.cells #[.iface 193 (.string ⟨#[102, 117, 110]⟩), .iface 192 (.string s), .iface 194 (.string ⟨#[61, 62]⟩), .iface 195 (.agg #[.int .i64 a.kind, .string a.name, .int .i64 a.num, .slice Aa a.kids.length ca])] 235)) fun e w' => ∃ v', e = .returned v' /\ qam base ts (([.inl (kTok [102, 117, 110]), .inl (nTok s.data.toList), .inl (mTok [61, 62]), .inr (a, Aa, ca)] : List Pt).flatMap partT) V.drew v v' w' := kl0
 replace kl := hid kl
 have hend : Hid (∀ v' w', qam base ts (([.inl (kTok [102, 117, 110]), .inl (nTok s.data.toList), .inl (mTok [61, 62]), .inr (a, Aa, ca)] : List Pt).flatMap partT) V.drew v v' w' -> qam base ts (toksT (.node 3 s 0 [a])) w v v' w') := fun v' w' h => by
   have e : toksT (.node 3 s 0 [a]) = ([.inl (kTok [102, 117, 110]), .inl (nTok s.data.toList), .inl (mTok [61, 62]), .inr (a, Aa, ca)] : List Pt).flatMap partT := by rw [qfL]; first | rfl | simp [partT]
   rw [e]; exact h.of hgW
 have hS0 : (V).cell? ⟨w.heap.size, 1, none⟩ = some (.string s) /\ (V).cell? ⟨kb, ko, none⟩ = some (.int .i64 a.kind) /\ (V).cell? ⟨kb, ko + 1, none⟩ = some (.string a.name) /\ (V).cell? ⟨kb, ko + 2, none⟩ = some (.int .i64 a.num) /\ (V).cell? ⟨kb, ko + 3, none⟩ = some (.slice Aa a.kids.length ca) := ⟨i1, ac0, ac1, ac2, ac3⟩
 have hSa : Hid (((V.alloc (.cells #[.iface 193 (.string ⟨#[102, 117, 110]⟩), .iface 192 (.string s), .iface 194 (.string ⟨#[61, 62]⟩), .iface 195 (.agg #[.int .i64 a.kind, .string a.name, .int .i64 a.num, .slice Aa a.kids.length ca])] 235)).drew).cell? ⟨w.heap.size, 1, none⟩ = some (.string s) /\ ((V.alloc (.cells #[.iface 193 (.string ⟨#[102, 117, 110]⟩), .iface 192 (.string s), .iface 194 (.string ⟨#[61, 62]⟩), .iface 195 (.agg #[.int .i64 a.kind, .string a.name, .int .i64 a.num, .slice Aa a.kids.length ca])] 235)).drew).cell? ⟨kb, ko, none⟩ = some (.int .i64 a.kind) /\ ((V.alloc (.cells #[.iface 193 (.string ⟨#[102, 117, 110]⟩), .iface 192 (.string s), .iface 194 (.string ⟨#[61, 62]⟩), .iface 195 (.agg #[.int .i64 a.kind, .string a.name, .int .i64 a.num, .slice Aa a.kids.length ca])] 235)).drew).cell? ⟨kb, ko + 1, none⟩ = some (.string a.name) /\ ((V.alloc (.cells #[.iface 193 (.string ⟨#[102, 117, 110]⟩), .iface 192 (.string s), .iface 194 (.string ⟨#[61, 62]⟩), .iface 195 (.agg #[.int .i64 a.kind, .string a.name, .int .i64 a.num, .slice Aa a.kids.length ca])] 235)).drew).cell? ⟨kb, ko + 2, none⟩ = some (.int .i64 a.num) /\ ((V.alloc (.cells #[.iface 193 (.string ⟨#[102, 117, 110]⟩), .iface 192 (.string s), .iface 194 (.string ⟨#[61, 62]⟩), .iface 195 (.agg #[.int .i64 a.kind, .string a.name, .int .i64 a.num, .slice Aa a.kids.length ca])] 235)).drew).cell? ⟨kb, ko + 3, none⟩ = some (.slice Aa a.kids.length ca)) := ⟨((qab V (.cells #[.iface 193 (.string ⟨#[102, 117, 110]⟩), .iface 192 (.string s), .iface 194 (.string ⟨#[61, 62]⟩), .iface 195 (.agg #[.int .i64 a.kind, .string a.name, .int .i64 a.num, .slice Aa a.kids.length ca])] 235)).cell (p := ⟨w.heap.size, 1, none⟩) hlv).trans i1, ((qab V (.cells #[.iface 193 (.string ⟨#[102, 117, 110]⟩), .iface 192 (.string s), .iface 194 (.string ⟨#[61, 62]⟩), .iface 195 (.agg #[.int .i64 a.kind, .string a.name, .int .i64 a.num, .slice Aa a.kids.length ca])] 235)).cell (p := ⟨kb, ko, none⟩) hkba).trans ac0, ((qab V (.cells #[.iface 193 (.string ⟨#[102, 117, 110]⟩), .iface 192 (.string s), .iface 194 (.string ⟨#[61, 62]⟩), .iface 195 (.agg #[.int .i64 a.kind, .string a.name, .int .i64 a.num, .slice Aa a.kids.length ca])] 235)).cell (p := ⟨kb, ko + 1, none⟩) hkba).trans ac1, ((qab V (.cells #[.iface 193 (.string ⟨#[102, 117, 110]⟩), .iface 192 (.string s), .iface 194 (.string ⟨#[61, 62]⟩), .iface 195 (.agg #[.int .i64 a.kind, .string a.name, .int .i64 a.num, .slice Aa a.kids.length ca])] 235)).cell (p := ⟨kb, ko + 2, none⟩) hkba).trans ac2, ((qab V (.cells #[.iface 193 (.string ⟨#[102, 117, 110]⟩), .iface 192 (.string s), .iface 194 (.string ⟨#[61, 62]⟩), .iface 195 (.agg #[.int .i64 a.kind, .string a.name, .int .i64 a.num, .slice Aa a.kids.length ca])] 235)).cell (p := ⟨kb, ko + 3, none⟩) hkba).trans ac3⟩
 have hSk : Hid (∀ v1 w1, qam base ts (([.inl (kTok [102, 117, 110]), .inl (nTok s.data.toList), .inl (mTok [61, 62]), .inr (a, Aa, ca)] : List Pt).flatMap partT) V.drew v v1 w1 -> (w1).cell? ⟨w.heap.size, 1, none⟩ = some (.string s) /\ (w1).cell? ⟨kb, ko, none⟩ = some (.int .i64 a.kind) /\ (w1).cell? ⟨kb, ko + 1, none⟩ = some (.string a.name) /\ (w1).cell? ⟨kb, ko + 2, none⟩ = some (.int .i64 a.num) /\ (w1).cell? ⟨kb, ko + 3, none⟩ = some (.slice Aa a.kids.length ca)) := fun v1 w1 h => ⟨(h.2.cell (b := w.heap.size) (o := 1) hob).trans i1, (h.2.cell (b := kb) (o := ko) hokb).trans ac0, (h.2.cell (b := kb) (o := ko + 1) hokb).trans ac1, (h.2.cell (b := kb) (o := ko + 2) hokb).trans ac2, (h.2.cell (b := kb) (o := ko + 3) hokb).trans ac3⟩
 clear kl0 hbV hbW hgW hEW hOW hTW hT hown hE hok hkk htt hlen hl hva
 replace hbx := hid hbx
 replace hV := hid hV
 replace hVs := hid hVs
 go_enter Tryz.func82, Tryz.ntmps82
 go_wp2_with fail
 try rw [hV.out]
 go_region_held3 (fun w' => (w').cell? ⟨w.heap.size, 1, none⟩ = some (.string s) /\ (w').cell? ⟨kb, ko, none⟩ = some (.int .i64 a.kind) /\ (w').cell? ⟨kb, ko + 1, none⟩ = some (.string a.name) /\ (w').cell? ⟨kb, ko + 2, none⟩ = some (.int .i64 a.num) /\ (w').cell? ⟨kb, ko + 3, none⟩ = some (.slice Aa a.kids.length ca)) (first | exact hS0 | exact hSa.out | exact hS1.out) (first | (go_at_call 123; refine kl.out.mono ?_; rintro e w1 ⟨v1, rfl, hp⟩; have hS1 := hid (hSk.out _ _ hp); replace hp := hid (hend.out _ _ hp); clear kl))
 all_goals go_wp2
 all_goals go_ret
 all_goals exact ⟨_, rfl, hp.out⟩
theorem qsV  (a : Go.Tm.T) (b : Go.Tm.T) (Ha : qaB a) (Hb : qaB b) : qbk (.node 4 ⟨#[]⟩ 0 [a, b]) := fun base v ts A c w h8 hbase hE hown hT hl => by
 have hbV : Below w.heap.size w (w.alloc (.cells #[.int .i64 4, .string ⟨#[]⟩, .int .i64 0, .slice A 2 c] 26)) := qab _ _
 have hbx : (w.alloc (.cells #[.int .i64 4, .string ⟨#[]⟩, .int .i64 0, .slice A 2 c] 26)).heap[w.heap.size]? = some (.cells #[.int .i64 4, .string ⟨#[]⟩, .int .i64 0, .slice A 2 c] 26 (0, 0)) := World.alloc_heap_new _ _
 have hVs : (w.alloc (.cells #[.int .i64 4, .string ⟨#[]⟩, .int .i64 0, .slice A 2 c] 26)).heap.size = w.heap.size + 1 := by simp
 show Calls Tryz.prog 82 #[v, .agg #[.int .i64 4, .string ⟨#[]⟩, .int .i64 0, .slice A 2 c]] w _
 obtain ⟨V, hV⟩ : ∃ V, w.alloc (.cells #[.int .i64 4, .string ⟨#[]⟩, .int .i64 0, .slice A 2 c] 26) = V := ⟨_, rfl⟩
 rw [hV] at hbV hbx hVs
 have hbW : Below w.heap.size w V.drew := hbV.drew
 have hgW : Gr w V.drew v v := Gr.of_below hbW
 have hEW := hE.below (Nat.le_refl _) (hbW.mono hE.size)
 have hOW := qaM hown hbW
 have hTW := hgW.tm hT
 have hbs : base <= (V.drew).heap.size := Nat.le_trans hbase hbW.size
 have i0 := qaa V w.heap.size 0 _ _ _ hbx
 have i1 := qaa V w.heap.size 1 _ _ _ hbx
 have i2 := qaa V w.heap.size 2 _ _ _ hbx
 have i3 := qaa V w.heap.size 3 _ _ _ hbx
 have hlv : w.heap.size < V.heap.size := by omega
 have hob : Out V.drew v w.heap.size := ⟨hlv, fun e => by have := qcx hown _ e; omega⟩
 obtain ⟨kb, ko, rfl, hrow⟩ := hTW.row.resolve_left (fun e => by cases e)
 obtain ⟨Aa, ca, hha, hva⟩ := qaG (hrow.get 0 (by show _ < 2; decide))
 replace hva : TmV V.drew (Out V.drew v) a Aa ca := hva
 have ac0 : V.cell? ⟨kb, ko, none⟩ = some (.int .i64 a.kind) := hha.kind
 have ac1 : V.cell? ⟨kb, ko + 1, none⟩ = some (.string a.name) := hha.name
 have ac2 : V.cell? ⟨kb, ko + 2, none⟩ = some (.int .i64 a.num) := hha.num
 have ac3 : V.cell? ⟨kb, ko + 3, none⟩ = some (.slice Aa a.kids.length ca) := hha.kids
 have hkba : kb < V.heap.size := hha.at_.1
 have hokb : Out V.drew v kb := hha.at_
 clear hha
 obtain ⟨Ab, cb, hhb, hvb⟩ := qaG (hrow.get 1 (by show _ < 2; decide))
 replace hvb : TmV V.drew (Out V.drew v) b Ab cb := hvb
 have bc0 : V.cell? ⟨kb, ko + 4, none⟩ = some (.int .i64 b.kind) := hhb.kind
 have bc1 : V.cell? ⟨kb, ko + 4 + 1, none⟩ = some (.string b.name) := hhb.name
 have bc2 : V.cell? ⟨kb, ko + 4 + 2, none⟩ = some (.int .i64 b.num) := hhb.num
 have bc3 : V.cell? ⟨kb, ko + 4 + 3, none⟩ = some (.slice Ab b.kids.length cb) := hhb.kids
 clear hhb
 clear hrow
 have hlen : ts.length + (([.inr (a, Aa, ca), .inr (b, Ab, cb)] : List Pt).flatMap partT).length <= 1099511627776 := by rw [qfM] at hl; simpa [partT] using hl
 have hok : ∀ p ∈ ([.inr (a, Aa, ca), .inr (b, Ab, cb)] : List Pt), qcm p := by
   intro p hp
   simp only [List.mem_cons, List.not_mem_nil, or_false] at hp
   rcases hp with rfl | rfl
   . exact trivial
   . exact trivial
 have hkk : ∀ u, .inr u ∈ ([.inr (a, Aa, ca), .inr (b, Ab, cb)] : List Pt) -> qaB u.1 := by
   intro u hu
   simp at hu
   rcases hu with rfl | rfl
   . exact Ha
   . exact Hb
 have htt : ∀ u, .inr u ∈ ([.inr (a, Aa, ca), .inr (b, Ab, cb)] : List Pt) -> TmV V.drew (Out V.drew v) u.1 u.2.1 u.2.2 := by
   intro u hu
   simp at hu
   rcases hu with rfl | rfl
   . exact hva
   . exact hvb
 have kl0 := qbP [.inr (a, Aa, ca), .inr (b, Ab, cb)] hok hkk base v ts 2 V.drew 235 h8 hbs hEW hOW htt hlen (by show 2 <= _; decide)
 have kl : Calls Tryz.prog 123 #[v, .slice (some ⟨V.heap.size, 0, none⟩) 2 2] (V.drew.alloc (.cells #[.iface 195 (.agg #[.int .i64 a.kind, .string a.name, .int .i64 a.num, .slice Aa a.kids.length ca]), .iface 195 (.agg #[.int .i64 b.kind, .string b.name, .int .i64 b.num, .slice Ab b.kids.length cb])] 235)) fun e w' => ∃ v', e = .returned v' /\ qam base ts (([.inr (a, Aa, ca), .inr (b, Ab, cb)] : List Pt).flatMap partT) V.drew v v' w' := kl0
 replace kl := hid kl
 have hend : Hid (∀ v' w', qam base ts (([.inr (a, Aa, ca), .inr (b, Ab, cb)] : List Pt).flatMap partT) V.drew v v' w' -> qam base ts (toksT (.node 4 ⟨#[]⟩ 0 [a, b])) w v v' w') := fun v' w' h => by
   have e : toksT (.node 4 ⟨#[]⟩ 0 [a, b]) = ([.inr (a, Aa, ca), .inr (b, Ab, cb)] : List Pt).flatMap partT := by rw [qfM]; first | rfl | simp [partT]
   rw [e]; exact h.of hgW
 have hS0 : (V).cell? ⟨kb, ko, none⟩ = some (.int .i64 a.kind) /\ (V).cell? ⟨kb, ko + 1, none⟩ = some (.string a.name) /\ (V).cell? ⟨kb, ko + 2, none⟩ = some (.int .i64 a.num) /\ (V).cell? ⟨kb, ko + 3, none⟩ = some (.slice Aa a.kids.length ca) /\ (V).cell? ⟨kb, ko + 4, none⟩ = some (.int .i64 b.kind) /\ (V).cell? ⟨kb, ko + 4 + 1, none⟩ = some (.string b.name) /\ (V).cell? ⟨kb, ko + 4 + 2, none⟩ = some (.int .i64 b.num) /\ (V).cell? ⟨kb, ko + 4 + 3, none⟩ = some (.slice Ab b.kids.length cb) := ⟨ac0, ac1, ac2, ac3, bc0, bc1, bc2, bc3⟩
 have hSa : Hid (((V.alloc (.cells #[.iface 195 (.agg #[.int .i64 a.kind, .string a.name, .int .i64 a.num, .slice Aa a.kids.length ca]), .iface 195 (.agg #[.int .i64 b.kind, .string b.name, .int .i64 b.num, .slice Ab b.kids.length cb])] 235)).drew).cell? ⟨kb, ko, none⟩ = some (.int .i64 a.kind) /\ ((V.alloc (.cells #[.iface 195 (.agg #[.int .i64 a.kind, .string a.name, .int .i64 a.num, .slice Aa a.kids.length ca]), .iface 195 (.agg #[.int .i64 b.kind, .string b.name, .int .i64 b.num, .slice Ab b.kids.length cb])] 235)).drew).cell? ⟨kb, ko + 1, none⟩ = some (.string a.name) /\ ((V.alloc (.cells #[.iface 195 (.agg #[.int .i64 a.kind, .string a.name, .int .i64 a.num, .slice Aa a.kids.length ca]), .iface 195 (.agg #[.int .i64 b.kind, .string b.name, .int .i64 b.num, .slice Ab b.kids.length cb])] 235)).drew).cell? ⟨kb, ko + 2, none⟩ = some (.int .i64 a.num) /\ ((V.alloc (.cells #[.iface 195 (.agg #[.int .i64 a.kind, .string a.name, .int .i64 a.num, .slice Aa a.kids.length ca]), .iface 195 (.agg #[.int .i64 b.kind, .string b.name, .int .i64 b.num, .slice Ab b.kids.length cb])] 235)).drew).cell? ⟨kb, ko + 3, none⟩ = some (.slice Aa a.kids.length ca) /\ ((V.alloc (.cells #[.iface 195 (.agg #[.int .i64 a.kind, .string a.name, .int .i64 a.num, .slice Aa a.kids.length ca]), .iface 195 (.agg #[.int .i64 b.kind, .string b.name, .int .i64 b.num, .slice Ab b.kids.length cb])] 235)).drew).cell? ⟨kb, ko + 4, none⟩ = some (.int .i64 b.kind) /\ ((V.alloc (.cells #[.iface 195 (.agg #[.int .i64 a.kind, .string a.name, .int .i64 a.num, .slice Aa a.kids.length ca]), .iface 195 (.agg #[.int .i64 b.kind, .string b.name, .int .i64 b.num, .slice Ab b.kids.length cb])] 235)).drew).cell? ⟨kb, ko + 4 + 1, none⟩ = some (.string b.name) /\ ((V.alloc (.cells #[.iface 195 (.agg #[.int .i64 a.kind, .string a.name, .int .i64 a.num, .slice Aa a.kids.length ca]), .iface 195 (.agg #[.int .i64 b.kind, .string b.name, .int .i64 b.num, .slice Ab b.kids.length cb])] 235)).drew).cell? ⟨kb, ko + 4 + 2, none⟩ = some (.int .i64 b.num) /\ ((V.alloc (.cells #[.iface 195 (.agg #[.int .i64 a.kind, .string a.name, .int .i64 a.num, .slice Aa a.kids.length ca]), .iface 195 (.agg #[.int .i64 b.kind, .string b.name, .int .i64 b.num, .slice Ab b.kids.length cb])] 235)).drew).cell? ⟨kb, ko + 4 + 3, none⟩ = some (.slice Ab b.kids.length cb)) := ⟨((qab V (.cells #[.iface 195 (.agg #[.int .i64 a.kind, .string a.name, .int .i64 a.num, .slice Aa a.kids.length ca]), .iface 195 (.agg #[.int .i64 b.kind, .string b.name, .int .i64 b.num, .slice Ab b.kids.length cb])] 235)).cell (p := ⟨kb, ko, none⟩) hkba).trans ac0, ((qab V (.cells #[.iface 195 (.agg #[.int .i64 a.kind, .string a.name, .int .i64 a.num, .slice Aa a.kids.length ca]), .iface 195 (.agg #[.int .i64 b.kind, .string b.name, .int .i64 b.num, .slice Ab b.kids.length cb])] 235)).cell (p := ⟨kb, ko + 1, none⟩) hkba).trans ac1, ((qab V (.cells #[.iface 195 (.agg #[.int .i64 a.kind, .string a.name, .int .i64 a.num, .slice Aa a.kids.length ca]), .iface 195 (.agg #[.int .i64 b.kind, .string b.name, .int .i64 b.num, .slice Ab b.kids.length cb])] 235)).cell (p := ⟨kb, ko + 2, none⟩) hkba).trans ac2, ((qab V (.cells #[.iface 195 (.agg #[.int .i64 a.kind, .string a.name, .int .i64 a.num, .slice Aa a.kids.length ca]), .iface 195 (.agg #[.int .i64 b.kind, .string b.name, .int .i64 b.num, .slice Ab b.kids.length cb])] 235)).cell (p := ⟨kb, ko + 3, none⟩) hkba).trans ac3, ((qab V (.cells #[.iface 195 (.agg #[.int .i64 a.kind, .string a.name, .int .i64 a.num, .slice Aa a.kids.length ca]), .iface 195 (.agg #[.int .i64 b.kind, .string b.name, .int .i64 b.num, .slice Ab b.kids.length cb])] 235)).cell (p := ⟨kb, ko + 4, none⟩) hkba).trans bc0, ((qab V (.cells #[.iface 195 (.agg #[.int .i64 a.kind, .string a.name, .int .i64 a.num, .slice Aa a.kids.length ca]), .iface 195 (.agg #[.int .i64 b.kind, .string b.name, .int .i64 b.num, .slice Ab b.kids.length cb])] 235)).cell (p := ⟨kb, ko + 4 + 1, none⟩) hkba).trans bc1, ((qab V (.cells #[.iface 195 (.agg #[.int .i64 a.kind, .string a.name, .int .i64 a.num, .slice Aa a.kids.length ca]), .iface 195 (.agg #[.int .i64 b.kind, .string b.name, .int .i64 b.num, .slice Ab b.kids.length cb])] 235)).cell (p := ⟨kb, ko + 4 + 2, none⟩) hkba).trans bc2, ((qab V (.cells #[.iface 195 (.agg #[.int .i64 a.kind, .string a.name, .int .i64 a.num, .slice Aa a.kids.length ca]), .iface 195 (.agg #[.int .i64 b.kind, .string b.name, .int .i64 b.num, .slice Ab b.kids.length cb])] 235)).cell (p := ⟨kb, ko + 4 + 3, none⟩) hkba).trans bc3⟩
 have hSk : Hid (∀ v1 w1, qam base ts (([.inr (a, Aa, ca), .inr (b, Ab, cb)] : List Pt).flatMap partT) V.drew v v1 w1 -> (w1).cell? ⟨kb, ko, none⟩ = some (.int .i64 a.kind) /\ (w1).cell? ⟨kb, ko + 1, none⟩ = some (.string a.name) /\ (w1).cell? ⟨kb, ko + 2, none⟩ = some (.int .i64 a.num) /\ (w1).cell? ⟨kb, ko + 3, none⟩ = some (.slice Aa a.kids.length ca) /\ (w1).cell? ⟨kb, ko + 4, none⟩ = some (.int .i64 b.kind) /\ (w1).cell? ⟨kb, ko + 4 + 1, none⟩ = some (.string b.name) /\ (w1).cell? ⟨kb, ko + 4 + 2, none⟩ = some (.int .i64 b.num) /\ (w1).cell? ⟨kb, ko + 4 + 3, none⟩ = some (.slice Ab b.kids.length cb)) := fun v1 w1 h => ⟨(h.2.cell (b := kb) (o := ko) hokb).trans ac0, (h.2.cell (b := kb) (o := ko + 1) hokb).trans ac1, (h.2.cell (b := kb) (o := ko + 2) hokb).trans ac2, (h.2.cell (b := kb) (o := ko + 3) hokb).trans ac3, (h.2.cell (b := kb) (o := ko + 4) hokb).trans bc0, (h.2.cell (b := kb) (o := ko + 4 + 1) hokb).trans bc1, (h.2.cell (b := kb) (o := ko + 4 + 2) hokb).trans bc2, (h.2.cell (b := kb) (o := ko + 4 + 3) hokb).trans bc3⟩
 clear kl0 hbV hbW hgW hEW hOW hTW hT hown hE hok hkk htt hlen hl hva hvb
 replace hbx := hid hbx
 replace hV := hid hV
 replace hVs := hid hVs
 go_enter Tryz.func82, Tryz.ntmps82
 go_wp2_with fail
 try rw [hV.out]
 go_region_held3 (fun w' => (w').cell? ⟨kb, ko, none⟩ = some (.int .i64 a.kind) /\ (w').cell? ⟨kb, ko + 1, none⟩ = some (.string a.name) /\ (w').cell? ⟨kb, ko + 2, none⟩ = some (.int .i64 a.num) /\ (w').cell? ⟨kb, ko + 3, none⟩ = some (.slice Aa a.kids.length ca) /\ (w').cell? ⟨kb, ko + 4, none⟩ = some (.int .i64 b.kind) /\ (w').cell? ⟨kb, ko + 4 + 1, none⟩ = some (.string b.name) /\ (w').cell? ⟨kb, ko + 4 + 2, none⟩ = some (.int .i64 b.num) /\ (w').cell? ⟨kb, ko + 4 + 3, none⟩ = some (.slice Ab b.kids.length cb)) (first | exact hS0 | exact hSa.out | exact hS1.out) (first | (go_at_call 123; refine kl.out.mono ?_; rintro e w1 ⟨v1, rfl, hp⟩; have hS1 := hid (hSk.out _ _ hp); replace hp := hid (hend.out _ _ hp); clear kl))
 all_goals go_wp2
 all_goals go_ret
 all_goals exact ⟨_, rfl, hp.out⟩
theorem qsW  (a : Go.Tm.T) (b : Go.Tm.T) (Ha : qaB a) (Hb : qaB b) : qbk (.node 7 ⟨#[]⟩ 0 [a, b]) := fun base v ts A c w h8 hbase hE hown hT hl => by
 have hbV : Below w.heap.size w (w.alloc (.cells #[.int .i64 7, .string ⟨#[]⟩, .int .i64 0, .slice A 2 c] 26)) := qab _ _
 have hbx : (w.alloc (.cells #[.int .i64 7, .string ⟨#[]⟩, .int .i64 0, .slice A 2 c] 26)).heap[w.heap.size]? = some (.cells #[.int .i64 7, .string ⟨#[]⟩, .int .i64 0, .slice A 2 c] 26 (0, 0)) := World.alloc_heap_new _ _
 have hVs : (w.alloc (.cells #[.int .i64 7, .string ⟨#[]⟩, .int .i64 0, .slice A 2 c] 26)).heap.size = w.heap.size + 1 := by simp
 show Calls Tryz.prog 82 #[v, .agg #[.int .i64 7, .string ⟨#[]⟩, .int .i64 0, .slice A 2 c]] w _
 obtain ⟨V, hV⟩ : ∃ V, w.alloc (.cells #[.int .i64 7, .string ⟨#[]⟩, .int .i64 0, .slice A 2 c] 26) = V := ⟨_, rfl⟩
 rw [hV] at hbV hbx hVs
 have hbW : Below w.heap.size w V.drew := hbV.drew
 have hgW : Gr w V.drew v v := Gr.of_below hbW
 have hEW := hE.below (Nat.le_refl _) (hbW.mono hE.size)
 have hOW := qaM hown hbW
 have hTW := hgW.tm hT
 have hbs : base <= (V.drew).heap.size := Nat.le_trans hbase hbW.size
 have i0 := qaa V w.heap.size 0 _ _ _ hbx
 have i1 := qaa V w.heap.size 1 _ _ _ hbx
 have i2 := qaa V w.heap.size 2 _ _ _ hbx
 have i3 := qaa V w.heap.size 3 _ _ _ hbx
 have hlv : w.heap.size < V.heap.size := by omega
 have hob : Out V.drew v w.heap.size := ⟨hlv, fun e => by have := qcx hown _ e; omega⟩
 obtain ⟨kb, ko, rfl, hrow⟩ := hTW.row.resolve_left (fun e => by cases e)
 obtain ⟨Aa, ca, hha, hva⟩ := qaG (hrow.get 0 (by show _ < 2; decide))
 replace hva : TmV V.drew (Out V.drew v) a Aa ca := hva
 have ac0 : V.cell? ⟨kb, ko, none⟩ = some (.int .i64 a.kind) := hha.kind
 have ac1 : V.cell? ⟨kb, ko + 1, none⟩ = some (.string a.name) := hha.name
 have ac2 : V.cell? ⟨kb, ko + 2, none⟩ = some (.int .i64 a.num) := hha.num
 have ac3 : V.cell? ⟨kb, ko + 3, none⟩ = some (.slice Aa a.kids.length ca) := hha.kids
 have hkba : kb < V.heap.size := hha.at_.1
 have hokb : Out V.drew v kb := hha.at_
 clear hha
 obtain ⟨Ab, cb, hhb, hvb⟩ := qaG (hrow.get 1 (by show _ < 2; decide))
 replace hvb : TmV V.drew (Out V.drew v) b Ab cb := hvb
 have bc0 : V.cell? ⟨kb, ko + 4, none⟩ = some (.int .i64 b.kind) := hhb.kind
 have bc1 : V.cell? ⟨kb, ko + 4 + 1, none⟩ = some (.string b.name) := hhb.name
 have bc2 : V.cell? ⟨kb, ko + 4 + 2, none⟩ = some (.int .i64 b.num) := hhb.num
 have bc3 : V.cell? ⟨kb, ko + 4 + 3, none⟩ = some (.slice Ab b.kids.length cb) := hhb.kids
 clear hhb
 clear hrow
 have hlen : ts.length + (([.inl (kTok [119, 104, 105, 108, 101]), .inr (a, Aa, ca), .inl (kTok [100, 111]), .inr (b, Ab, cb)] : List Pt).flatMap partT).length <= 1099511627776 := by rw [qfP] at hl; simpa [partT] using hl
 have hok : ∀ p ∈ ([.inl (kTok [119, 104, 105, 108, 101]), .inr (a, Aa, ca), .inl (kTok [100, 111]), .inr (b, Ab, cb)] : List Pt), qcm p := by
   intro p hp
   simp only [List.mem_cons, List.not_mem_nil, or_false] at hp
   rcases hp with rfl | rfl | rfl | rfl
   . exact .inl ⟨.inr (.inl rfl), rfl⟩
   . exact trivial
   . exact .inl ⟨.inr (.inl rfl), rfl⟩
   . exact trivial
 have hkk : ∀ u, .inr u ∈ ([.inl (kTok [119, 104, 105, 108, 101]), .inr (a, Aa, ca), .inl (kTok [100, 111]), .inr (b, Ab, cb)] : List Pt) -> qaB u.1 := by
   intro u hu
   simp at hu
   rcases hu with rfl | rfl
   . exact Ha
   . exact Hb
 have htt : ∀ u, .inr u ∈ ([.inl (kTok [119, 104, 105, 108, 101]), .inr (a, Aa, ca), .inl (kTok [100, 111]), .inr (b, Ab, cb)] : List Pt) -> TmV V.drew (Out V.drew v) u.1 u.2.1 u.2.2 := by
   intro u hu
   simp at hu
   rcases hu with rfl | rfl
   . exact hva
   . exact hvb
 have kl0 := qbP [.inl (kTok [119, 104, 105, 108, 101]), .inr (a, Aa, ca), .inl (kTok [100, 111]), .inr (b, Ab, cb)] hok hkk base v ts 4 V.drew 235 h8 hbs hEW hOW htt hlen (by show 4 <= _; decide)
 have kl : Calls Tryz.prog 123 #[v, .slice (some ⟨V.heap.size, 0, none⟩) 4 4] (V.drew.alloc (.cells #[.iface 193 (.string ⟨#[119, 104, 105, 108, 101]⟩), .iface 195 (.agg #[.int .i64 a.kind, .string a.name, .int .i64 a.num, .slice Aa a.kids.length ca]), .iface 193 (.string ⟨#[100, 111]⟩), .iface 195 (.agg #[.int .i64 b.kind, .string b.name, .int .i64 b.num, .slice Ab b.kids.length cb])] 235)) fun e w' => ∃ v', e = .returned v' /\ qam base ts (([.inl (kTok [119, 104, 105, 108, 101]), .inr (a, Aa, ca), .inl (kTok [100, 111]), .inr (b, Ab, cb)] : List Pt).flatMap partT) V.drew v v' w' := kl0
 replace kl := hid kl
 have hend : Hid (∀ v' w', qam base ts (([.inl (kTok [119, 104, 105, 108, 101]), .inr (a, Aa, ca), .inl (kTok [100, 111]), .inr (b, Ab, cb)] : List Pt).flatMap partT) V.drew v v' w' -> qam base ts (toksT (.node 7 ⟨#[]⟩ 0 [a, b])) w v v' w') := fun v' w' h => by
   have e : toksT (.node 7 ⟨#[]⟩ 0 [a, b]) = ([.inl (kTok [119, 104, 105, 108, 101]), .inr (a, Aa, ca), .inl (kTok [100, 111]), .inr (b, Ab, cb)] : List Pt).flatMap partT := by rw [qfP]; first | rfl | simp [partT]
   rw [e]; exact h.of hgW
 have hS0 : (V).cell? ⟨kb, ko, none⟩ = some (.int .i64 a.kind) /\ (V).cell? ⟨kb, ko + 1, none⟩ = some (.string a.name) /\ (V).cell? ⟨kb, ko + 2, none⟩ = some (.int .i64 a.num) /\ (V).cell? ⟨kb, ko + 3, none⟩ = some (.slice Aa a.kids.length ca) /\ (V).cell? ⟨kb, ko + 4, none⟩ = some (.int .i64 b.kind) /\ (V).cell? ⟨kb, ko + 4 + 1, none⟩ = some (.string b.name) /\ (V).cell? ⟨kb, ko + 4 + 2, none⟩ = some (.int .i64 b.num) /\ (V).cell? ⟨kb, ko + 4 + 3, none⟩ = some (.slice Ab b.kids.length cb) := ⟨ac0, ac1, ac2, ac3, bc0, bc1, bc2, bc3⟩
 have hSa : Hid (((V.alloc (.cells #[.iface 193 (.string ⟨#[119, 104, 105, 108, 101]⟩), .iface 195 (.agg #[.int .i64 a.kind, .string a.name, .int .i64 a.num, .slice Aa a.kids.length ca]), .iface 193 (.string ⟨#[100, 111]⟩), .iface 195 (.agg #[.int .i64 b.kind, .string b.name, .int .i64 b.num, .slice Ab b.kids.length cb])] 235)).drew).cell? ⟨kb, ko, none⟩ = some (.int .i64 a.kind) /\ ((V.alloc (.cells #[.iface 193 (.string ⟨#[119, 104, 105, 108, 101]⟩), .iface 195 (.agg #[.int .i64 a.kind, .string a.name, .int .i64 a.num, .slice Aa a.kids.length ca]), .iface 193 (.string ⟨#[100, 111]⟩), .iface 195 (.agg #[.int .i64 b.kind, .string b.name, .int .i64 b.num, .slice Ab b.kids.length cb])] 235)).drew).cell? ⟨kb, ko + 1, none⟩ = some (.string a.name) /\ ((V.alloc (.cells #[.iface 193 (.string ⟨#[119, 104, 105, 108, 101]⟩), .iface 195 (.agg #[.int .i64 a.kind, .string a.name, .int .i64 a.num, .slice Aa a.kids.length ca]), .iface 193 (.string ⟨#[100, 111]⟩), .iface 195 (.agg #[.int .i64 b.kind, .string b.name, .int .i64 b.num, .slice Ab b.kids.length cb])] 235)).drew).cell? ⟨kb, ko + 2, none⟩ = some (.int .i64 a.num) /\ ((V.alloc (.cells #[.iface 193 (.string ⟨#[119, 104, 105, 108, 101]⟩), .iface 195 (.agg #[.int .i64 a.kind, .string a.name, .int .i64 a.num, .slice Aa a.kids.length ca]), .iface 193 (.string ⟨#[100, 111]⟩), .iface 195 (.agg #[.int .i64 b.kind, .string b.name, .int .i64 b.num, .slice Ab b.kids.length cb])] 235)).drew).cell? ⟨kb, ko + 3, none⟩ = some (.slice Aa a.kids.length ca) /\ ((V.alloc (.cells #[.iface 193 (.string ⟨#[119, 104, 105, 108, 101]⟩), .iface 195 (.agg #[.int .i64 a.kind, .string a.name, .int .i64 a.num, .slice Aa a.kids.length ca]), .iface 193 (.string ⟨#[100, 111]⟩), .iface 195 (.agg #[.int .i64 b.kind, .string b.name, .int .i64 b.num, .slice Ab b.kids.length cb])] 235)).drew).cell? ⟨kb, ko + 4, none⟩ = some (.int .i64 b.kind) /\ ((V.alloc (.cells #[.iface 193 (.string ⟨#[119, 104, 105, 108, 101]⟩), .iface 195 (.agg #[.int .i64 a.kind, .string a.name, .int .i64 a.num, .slice Aa a.kids.length ca]), .iface 193 (.string ⟨#[100, 111]⟩), .iface 195 (.agg #[.int .i64 b.kind, .string b.name, .int .i64 b.num, .slice Ab b.kids.length cb])] 235)).drew).cell? ⟨kb, ko + 4 + 1, none⟩ = some (.string b.name) /\ ((V.alloc (.cells #[.iface 193 (.string ⟨#[119, 104, 105, 108, 101]⟩), .iface 195 (.agg #[.int .i64 a.kind, .string a.name, .int .i64 a.num, .slice Aa a.kids.length ca]), .iface 193 (.string ⟨#[100, 111]⟩), .iface 195 (.agg #[.int .i64 b.kind, .string b.name, .int .i64 b.num, .slice Ab b.kids.length cb])] 235)).drew).cell? ⟨kb, ko + 4 + 2, none⟩ = some (.int .i64 b.num) /\ ((V.alloc (.cells #[.iface 193 (.string ⟨#[119, 104, 105, 108, 101]⟩), .iface 195 (.agg #[.int .i64 a.kind, .string a.name, .int .i64 a.num, .slice Aa a.kids.length ca]), .iface 193 (.string ⟨#[100, 111]⟩), .iface 195 (.agg #[.int .i64 b.kind, .string b.name, .int .i64 b.num, .slice Ab b.kids.length cb])] 235)).drew).cell? ⟨kb, ko + 4 + 3, none⟩ = some (.slice Ab b.kids.length cb)) := ⟨((qab V (.cells #[.iface 193 (.string ⟨#[119, 104, 105, 108, 101]⟩), .iface 195 (.agg #[.int .i64 a.kind, .string a.name, .int .i64 a.num, .slice Aa a.kids.length ca]), .iface 193 (.string ⟨#[100, 111]⟩), .iface 195 (.agg #[.int .i64 b.kind, .string b.name, .int .i64 b.num, .slice Ab b.kids.length cb])] 235)).cell (p := ⟨kb, ko, none⟩) hkba).trans ac0, ((qab V (.cells #[.iface 193 (.string ⟨#[119, 104, 105, 108, 101]⟩), .iface 195 (.agg #[.int .i64 a.kind, .string a.name, .int .i64 a.num, .slice Aa a.kids.length ca]), .iface 193 (.string ⟨#[100, 111]⟩), .iface 195 (.agg #[.int .i64 b.kind, .string b.name, .int .i64 b.num, .slice Ab b.kids.length cb])] 235)).cell (p := ⟨kb, ko + 1, none⟩) hkba).trans ac1, ((qab V (.cells #[.iface 193 (.string ⟨#[119, 104, 105, 108, 101]⟩), .iface 195 (.agg #[.int .i64 a.kind, .string a.name, .int .i64 a.num, .slice Aa a.kids.length ca]), .iface 193 (.string ⟨#[100, 111]⟩), .iface 195 (.agg #[.int .i64 b.kind, .string b.name, .int .i64 b.num, .slice Ab b.kids.length cb])] 235)).cell (p := ⟨kb, ko + 2, none⟩) hkba).trans ac2, ((qab V (.cells #[.iface 193 (.string ⟨#[119, 104, 105, 108, 101]⟩), .iface 195 (.agg #[.int .i64 a.kind, .string a.name, .int .i64 a.num, .slice Aa a.kids.length ca]), .iface 193 (.string ⟨#[100, 111]⟩), .iface 195 (.agg #[.int .i64 b.kind, .string b.name, .int .i64 b.num, .slice Ab b.kids.length cb])] 235)).cell (p := ⟨kb, ko + 3, none⟩) hkba).trans ac3, ((qab V (.cells #[.iface 193 (.string ⟨#[119, 104, 105, 108, 101]⟩), .iface 195 (.agg #[.int .i64 a.kind, .string a.name, .int .i64 a.num, .slice Aa a.kids.length ca]), .iface 193 (.string ⟨#[100, 111]⟩), .iface 195 (.agg #[.int .i64 b.kind, .string b.name, .int .i64 b.num, .slice Ab b.kids.length cb])] 235)).cell (p := ⟨kb, ko + 4, none⟩) hkba).trans bc0, ((qab V (.cells #[.iface 193 (.string ⟨#[119, 104, 105, 108, 101]⟩), .iface 195 (.agg #[.int .i64 a.kind, .string a.name, .int .i64 a.num, .slice Aa a.kids.length ca]), .iface 193 (.string ⟨#[100, 111]⟩), .iface 195 (.agg #[.int .i64 b.kind, .string b.name, .int .i64 b.num, .slice Ab b.kids.length cb])] 235)).cell (p := ⟨kb, ko + 4 + 1, none⟩) hkba).trans bc1, ((qab V (.cells #[.iface 193 (.string ⟨#[119, 104, 105, 108, 101]⟩), .iface 195 (.agg #[.int .i64 a.kind, .string a.name, .int .i64 a.num, .slice Aa a.kids.length ca]), .iface 193 (.string ⟨#[100, 111]⟩), .iface 195 (.agg #[.int .i64 b.kind, .string b.name, .int .i64 b.num, .slice Ab b.kids.length cb])] 235)).cell (p := ⟨kb, ko + 4 + 2, none⟩) hkba).trans bc2, ((qab V (.cells #[.iface 193 (.string ⟨#[119, 104, 105, 108, 101]⟩), .iface 195 (.agg #[.int .i64 a.kind, .string a.name, .int .i64 a.num, .slice Aa a.kids.length ca]), .iface 193 (.string ⟨#[100, 111]⟩), .iface 195 (.agg #[.int .i64 b.kind, .string b.name, .int .i64 b.num, .slice Ab b.kids.length cb])] 235)).cell (p := ⟨kb, ko + 4 + 3, none⟩) hkba).trans bc3⟩
 have hSk : Hid (∀ v1 w1, qam base ts (([.inl (kTok [119, 104, 105, 108, 101]), .inr (a, Aa, ca), .inl (kTok [100, 111]), .inr (b, Ab, cb)] : List Pt).flatMap partT) V.drew v v1 w1 -> (w1).cell? ⟨kb, ko, none⟩ = some (.int .i64 a.kind) /\ (w1).cell? ⟨kb, ko + 1, none⟩ = some (.string a.name) /\ (w1).cell? ⟨kb, ko + 2, none⟩ = some (.int .i64 a.num) /\ (w1).cell? ⟨kb, ko + 3, none⟩ = some (.slice Aa a.kids.length ca) /\ (w1).cell? ⟨kb, ko + 4, none⟩ = some (.int .i64 b.kind) /\ (w1).cell? ⟨kb, ko + 4 + 1, none⟩ = some (.string b.name) /\ (w1).cell? ⟨kb, ko + 4 + 2, none⟩ = some (.int .i64 b.num) /\ (w1).cell? ⟨kb, ko + 4 + 3, none⟩ = some (.slice Ab b.kids.length cb)) := fun v1 w1 h => ⟨(h.2.cell (b := kb) (o := ko) hokb).trans ac0, (h.2.cell (b := kb) (o := ko + 1) hokb).trans ac1, (h.2.cell (b := kb) (o := ko + 2) hokb).trans ac2, (h.2.cell (b := kb) (o := ko + 3) hokb).trans ac3, (h.2.cell (b := kb) (o := ko + 4) hokb).trans bc0, (h.2.cell (b := kb) (o := ko + 4 + 1) hokb).trans bc1, (h.2.cell (b := kb) (o := ko + 4 + 2) hokb).trans bc2, (h.2.cell (b := kb) (o := ko + 4 + 3) hokb).trans bc3⟩
 clear kl0 hbV hbW hgW hEW hOW hTW hT hown hE hok hkk htt hlen hl hva hvb
 replace hbx := hid hbx
 replace hV := hid hV
 replace hVs := hid hVs
 go_enter Tryz.func82, Tryz.ntmps82
 go_wp2_with fail
 try rw [hV.out]
 go_region_held3 (fun w' => (w').cell? ⟨kb, ko, none⟩ = some (.int .i64 a.kind) /\ (w').cell? ⟨kb, ko + 1, none⟩ = some (.string a.name) /\ (w').cell? ⟨kb, ko + 2, none⟩ = some (.int .i64 a.num) /\ (w').cell? ⟨kb, ko + 3, none⟩ = some (.slice Aa a.kids.length ca) /\ (w').cell? ⟨kb, ko + 4, none⟩ = some (.int .i64 b.kind) /\ (w').cell? ⟨kb, ko + 4 + 1, none⟩ = some (.string b.name) /\ (w').cell? ⟨kb, ko + 4 + 2, none⟩ = some (.int .i64 b.num) /\ (w').cell? ⟨kb, ko + 4 + 3, none⟩ = some (.slice Ab b.kids.length cb)) (first | exact hS0 | exact hSa.out | exact hS1.out) (first | (go_at_call 123; refine kl.out.mono ?_; rintro e w1 ⟨v1, rfl, hp⟩; have hS1 := hid (hSk.out _ _ hp); replace hp := hid (hend.out _ _ hp); clear kl))
 all_goals go_wp2
 all_goals go_ret
 all_goals exact ⟨_, rfl, hp.out⟩
theorem qsX  (a : Go.Tm.T) (Ha : qaB a) : qbk (.node 8 ⟨#[]⟩ 0 [a]) := fun base v ts A c w h8 hbase hE hown hT hl => by
 have hbV : Below w.heap.size w (w.alloc (.cells #[.int .i64 8, .string ⟨#[]⟩, .int .i64 0, .slice A 1 c] 26)) := qab _ _
 have hbx : (w.alloc (.cells #[.int .i64 8, .string ⟨#[]⟩, .int .i64 0, .slice A 1 c] 26)).heap[w.heap.size]? = some (.cells #[.int .i64 8, .string ⟨#[]⟩, .int .i64 0, .slice A 1 c] 26 (0, 0)) := World.alloc_heap_new _ _
 have hVs : (w.alloc (.cells #[.int .i64 8, .string ⟨#[]⟩, .int .i64 0, .slice A 1 c] 26)).heap.size = w.heap.size + 1 := by simp
 show Calls Tryz.prog 82 #[v, .agg #[.int .i64 8, .string ⟨#[]⟩, .int .i64 0, .slice A 1 c]] w _
 obtain ⟨V, hV⟩ : ∃ V, w.alloc (.cells #[.int .i64 8, .string ⟨#[]⟩, .int .i64 0, .slice A 1 c] 26) = V := ⟨_, rfl⟩
 rw [hV] at hbV hbx hVs
 have hbW : Below w.heap.size w V := hbV
 have hgW : Gr w V v v := Gr.of_below hbW
 have hEW := hE.below (Nat.le_refl _) (hbW.mono hE.size)
 have hOW := qaM hown hbW
 have hTW := hgW.tm hT
 have hbs : base <= (V).heap.size := Nat.le_trans hbase hbW.size
 have i0 := qaa V w.heap.size 0 _ _ _ hbx
 have i1 := qaa V w.heap.size 1 _ _ _ hbx
 have i2 := qaa V w.heap.size 2 _ _ _ hbx
 have i3 := qaa V w.heap.size 3 _ _ _ hbx
 have hlv : w.heap.size < V.heap.size := by omega
 obtain ⟨kb, ko, rfl, hrow⟩ := hTW.row.resolve_left (fun e => by cases e)
 obtain ⟨Aa, ca, hha, hva⟩ := qaG (hrow.get 0 (by show _ < 1; decide))
 replace hva : TmV V (Out V v) a Aa ca := hva
 have ac0 : V.cell? ⟨kb, ko, none⟩ = some (.int .i64 a.kind) := hha.kind
 have ac0' : (w.alloc (.cells #[.int .i64 8, .string ⟨#[]⟩, .int .i64 0, .slice (some ⟨kb, ko, none⟩) 1 c] 26)).cell? ⟨kb, ko, none⟩ = some (.int .i64 a.kind) := by rw [hV]; exact ac0
 have ac1 : V.cell? ⟨kb, ko + 1, none⟩ = some (.string a.name) := hha.name
 have ac1' : (w.alloc (.cells #[.int .i64 8, .string ⟨#[]⟩, .int .i64 0, .slice (some ⟨kb, ko, none⟩) 1 c] 26)).cell? ⟨kb, ko + 1, none⟩ = some (.string a.name) := by rw [hV]; exact ac1
 have ac2 : V.cell? ⟨kb, ko + 2, none⟩ = some (.int .i64 a.num) := hha.num
 have ac2' : (w.alloc (.cells #[.int .i64 8, .string ⟨#[]⟩, .int .i64 0, .slice (some ⟨kb, ko, none⟩) 1 c] 26)).cell? ⟨kb, ko + 2, none⟩ = some (.int .i64 a.num) := by rw [hV]; exact ac2
 have ac3 : V.cell? ⟨kb, ko + 3, none⟩ = some (.slice Aa a.kids.length ca) := hha.kids
 have ac3' : (w.alloc (.cells #[.int .i64 8, .string ⟨#[]⟩, .int .i64 0, .slice (some ⟨kb, ko, none⟩) 1 c] 26)).cell? ⟨kb, ko + 3, none⟩ = some (.slice Aa a.kids.length ca) := by rw [hV]; exact ac3
 have hkba : kb < V.heap.size := hha.at_.1
 clear hha
 clear hrow
 have hlen : ts.length + (([.inl (kTok [114, 97, 105, 115, 101]), .inr (a, Aa, ca)] : List Pt).flatMap partT).length <= 1099511627776 := by rw [qfQ] at hl; simpa [partT] using hl
 have hok : ∀ p ∈ ([.inl (kTok [114, 97, 105, 115, 101]), .inr (a, Aa, ca)] : List Pt), qcm p := by
   intro p hp
   simp only [List.mem_cons, List.not_mem_nil, or_false] at hp
   rcases hp with rfl | rfl
   . exact .inl ⟨.inr (.inl rfl), rfl⟩
   . exact trivial
 have hkk : ∀ u, .inr u ∈ ([.inl (kTok [114, 97, 105, 115, 101]), .inr (a, Aa, ca)] : List Pt) -> qaB u.1 := by
   intro u hu
   simp at hu
   subst hu; exact Ha
 have htt : ∀ u, .inr u ∈ ([.inl (kTok [114, 97, 105, 115, 101]), .inr (a, Aa, ca)] : List Pt) -> TmV V (Out V v) u.1 u.2.1 u.2.2 := by
   intro u hu
   simp at hu
   subst hu; exact hva
 have kl0 := qbP [.inl (kTok [114, 97, 105, 115, 101]), .inr (a, Aa, ca)] hok hkk base v ts 2 V 235 h8 hbs hEW hOW htt hlen (by show 2 <= _; decide)
 have kl : Calls Tryz.prog 123 #[v, .slice (some ⟨V.heap.size, 0, none⟩) 2 2] (V.alloc (.cells #[.iface 193 (.string ⟨#[114, 97, 105, 115, 101]⟩), .iface 195 (.agg #[.int .i64 a.kind, .string a.name, .int .i64 a.num, .slice Aa a.kids.length ca])] 235)) fun e w' => ∃ v', e = .returned v' /\ qam base ts (([.inl (kTok [114, 97, 105, 115, 101]), .inr (a, Aa, ca)] : List Pt).flatMap partT) V v v' w' := kl0
 rw [hVs] at kl
 replace kl := hid kl
 have hend : Hid (∀ v' w', qam base ts (([.inl (kTok [114, 97, 105, 115, 101]), .inr (a, Aa, ca)] : List Pt).flatMap partT) V v v' w' -> qam base ts (toksT (.node 8 ⟨#[]⟩ 0 [a])) w v v' w') := fun v' w' h => by
   have e : toksT (.node 8 ⟨#[]⟩ 0 [a]) = ([.inl (kTok [114, 97, 105, 115, 101]), .inr (a, Aa, ca)] : List Pt).flatMap partT := by rw [qfQ]; first | rfl | simp [partT]
   rw [e]; exact h.of hgW
 clear kl0 hbV hbW hgW hEW hOW hTW hT hown hE hok hkk htt hlen hl hva
 replace hbx := hid hbx
 replace hV := hid hV
 go_enter Tryz.func82, Tryz.ntmps82
 go_wp2_with fail
 try rw [hV.out]
 go_wp2_with fail
 refine kl.out.mono ?_
 rintro e w1 ⟨v1, rfl, hp⟩
 replace hp := hid (hend.out _ _ hp)
 clear kl
 go_wp2_with fail
 go_ret
 exact ⟨_, rfl, hp.out⟩
theorem qsf  (a : Go.Tm.T) (Ha : qaB a) : qbk (.node 10 ⟨#[]⟩ 0 [a]) := fun base v ts A c w h8 hbase hE hown hT hl => by
 have hbV : Below w.heap.size w (w.alloc (.cells #[.int .i64 10, .string ⟨#[]⟩, .int .i64 0, .slice A 1 c] 26)) := qab _ _
 have hbx : (w.alloc (.cells #[.int .i64 10, .string ⟨#[]⟩, .int .i64 0, .slice A 1 c] 26)).heap[w.heap.size]? = some (.cells #[.int .i64 10, .string ⟨#[]⟩, .int .i64 0, .slice A 1 c] 26 (0, 0)) := World.alloc_heap_new _ _
 have hVs : (w.alloc (.cells #[.int .i64 10, .string ⟨#[]⟩, .int .i64 0, .slice A 1 c] 26)).heap.size = w.heap.size + 1 := by simp
 show Calls Tryz.prog 82 #[v, .agg #[.int .i64 10, .string ⟨#[]⟩, .int .i64 0, .slice A 1 c]] w _
 obtain ⟨V, hV⟩ : ∃ V, w.alloc (.cells #[.int .i64 10, .string ⟨#[]⟩, .int .i64 0, .slice A 1 c] 26) = V := ⟨_, rfl⟩
 rw [hV] at hbV hbx hVs
 have hbW : Below w.heap.size w V := hbV
 have hgW : Gr w V v v := Gr.of_below hbW
 have hEW := hE.below (Nat.le_refl _) (hbW.mono hE.size)
 have hOW := qaM hown hbW
 have hTW := hgW.tm hT
 have hbs : base <= (V).heap.size := Nat.le_trans hbase hbW.size
 have i0 := qaa V w.heap.size 0 _ _ _ hbx
 have i1 := qaa V w.heap.size 1 _ _ _ hbx
 have i2 := qaa V w.heap.size 2 _ _ _ hbx
 have i3 := qaa V w.heap.size 3 _ _ _ hbx
 have hlv : w.heap.size < V.heap.size := by omega
 obtain ⟨kb, ko, rfl, hrow⟩ := hTW.row.resolve_left (fun e => by cases e)
 obtain ⟨Aa, ca, hha, hva⟩ := qaG (hrow.get 0 (by show _ < 1; decide))
 replace hva : TmV V (Out V v) a Aa ca := hva
 have ac0 : V.cell? ⟨kb, ko, none⟩ = some (.int .i64 a.kind) := hha.kind
 have ac0' : (w.alloc (.cells #[.int .i64 10, .string ⟨#[]⟩, .int .i64 0, .slice (some ⟨kb, ko, none⟩) 1 c] 26)).cell? ⟨kb, ko, none⟩ = some (.int .i64 a.kind) := by rw [hV]; exact ac0
 have ac1 : V.cell? ⟨kb, ko + 1, none⟩ = some (.string a.name) := hha.name
 have ac1' : (w.alloc (.cells #[.int .i64 10, .string ⟨#[]⟩, .int .i64 0, .slice (some ⟨kb, ko, none⟩) 1 c] 26)).cell? ⟨kb, ko + 1, none⟩ = some (.string a.name) := by rw [hV]; exact ac1
 have ac2 : V.cell? ⟨kb, ko + 2, none⟩ = some (.int .i64 a.num) := hha.num
 have ac2' : (w.alloc (.cells #[.int .i64 10, .string ⟨#[]⟩, .int .i64 0, .slice (some ⟨kb, ko, none⟩) 1 c] 26)).cell? ⟨kb, ko + 2, none⟩ = some (.int .i64 a.num) := by rw [hV]; exact ac2
 have ac3 : V.cell? ⟨kb, ko + 3, none⟩ = some (.slice Aa a.kids.length ca) := hha.kids
 have ac3' : (w.alloc (.cells #[.int .i64 10, .string ⟨#[]⟩, .int .i64 0, .slice (some ⟨kb, ko, none⟩) 1 c] 26)).cell? ⟨kb, ko + 3, none⟩ = some (.slice Aa a.kids.length ca) := by rw [hV]; exact ac3
 have hkba : kb < V.heap.size := hha.at_.1
 clear hha
 clear hrow
 have hlen : ts.length + (([.inl (mTok [33]), .inr (a, Aa, ca)] : List Pt).flatMap partT).length <= 1099511627776 := by rw [qdA] at hl; simpa [partT] using hl
 have hok : ∀ p ∈ ([.inl (mTok [33]), .inr (a, Aa, ca)] : List Pt), qcm p := by
   intro p hp
   simp only [List.mem_cons, List.not_mem_nil, or_false] at hp
   rcases hp with rfl | rfl
   . exact .inl ⟨.inr (.inr rfl), rfl⟩
   . exact trivial
 have hkk : ∀ u, .inr u ∈ ([.inl (mTok [33]), .inr (a, Aa, ca)] : List Pt) -> qaB u.1 := by
   intro u hu
   simp at hu
   subst hu; exact Ha
 have htt : ∀ u, .inr u ∈ ([.inl (mTok [33]), .inr (a, Aa, ca)] : List Pt) -> TmV V (Out V v) u.1 u.2.1 u.2.2 := by
   intro u hu
   simp at hu
   subst hu; exact hva
 have kl0 := qbP [.inl (mTok [33]), .inr (a, Aa, ca)] hok hkk base v ts 2 V 235 h8 hbs hEW hOW htt hlen (by show 2 <= _; decide)
 have kl : Calls Tryz.prog 123 #[v, .slice (some ⟨V.heap.size, 0, none⟩) 2 2] (V.alloc (.cells #[.iface 194 (.string ⟨#[33]⟩), .iface 195 (.agg #[.int .i64 a.kind, .string a.name, .int .i64 a.num, .slice Aa a.kids.length ca])] 235)) fun e w' => ∃ v', e = .returned v' /\ qam base ts (([.inl (mTok [33]), .inr (a, Aa, ca)] : List Pt).flatMap partT) V v v' w' := kl0
 rw [hVs] at kl
 replace kl := hid kl
 have hend : Hid (∀ v' w', qam base ts (([.inl (mTok [33]), .inr (a, Aa, ca)] : List Pt).flatMap partT) V v v' w' -> qam base ts (toksT (.node 10 ⟨#[]⟩ 0 [a])) w v v' w') := fun v' w' h => by
   have e : toksT (.node 10 ⟨#[]⟩ 0 [a]) = ([.inl (mTok [33]), .inr (a, Aa, ca)] : List Pt).flatMap partT := by rw [qdA]; first | rfl | simp [partT]
   rw [e]; exact h.of hgW
 clear kl0 hbV hbW hgW hEW hOW hTW hT hown hE hok hkk htt hlen hl hva
 replace hbx := hid hbx
 replace hV := hid hV
 go_enter Tryz.func82, Tryz.ntmps82
 go_wp2_with fail
 try rw [hV.out]
 go_wp2_with fail
 refine kl.out.mono ?_
 rintro e w1 ⟨v1, rfl, hp⟩
 replace hp := hid (hend.out _ _ hp)
 clear kl
 go_wp2_with fail
 go_ret
 exact ⟨_, rfl, hp.out⟩
theorem qsY (s : ByteArray)  (a : Go.Tm.T) (b : Go.Tm.T) (Ha : qaB a) (Hb : qaB b) : qbk (.node 5 s 0 [a, b]) := fun base v ts A c w h8 hbase hE hown hT hl => by
 have hbV : Below w.heap.size w (w.alloc (.cells #[.int .i64 5, .string s, .int .i64 0, .slice A 2 c] 26)) := qab _ _
 have hbx : (w.alloc (.cells #[.int .i64 5, .string s, .int .i64 0, .slice A 2 c] 26)).heap[w.heap.size]? = some (.cells #[.int .i64 5, .string s, .int .i64 0, .slice A 2 c] 26 (0, 0)) := World.alloc_heap_new _ _
 have hVs : (w.alloc (.cells #[.int .i64 5, .string s, .int .i64 0, .slice A 2 c] 26)).heap.size = w.heap.size + 1 := by simp
 show Calls Tryz.prog 82 #[v, .agg #[.int .i64 5, .string s, .int .i64 0, .slice A 2 c]] w _
 obtain ⟨V, hV⟩ : ∃ V, w.alloc (.cells #[.int .i64 5, .string s, .int .i64 0, .slice A 2 c] 26) = V := ⟨_, rfl⟩
 rw [hV] at hbV hbx hVs
 have hbW : Below w.heap.size w V.drew := hbV.drew
 have hgW : Gr w V.drew v v := Gr.of_below hbW
 have hEW := hE.below (Nat.le_refl _) (hbW.mono hE.size)
 have hOW := qaM hown hbW
 have hTW := hgW.tm hT
 have hbs : base <= (V.drew).heap.size := Nat.le_trans hbase hbW.size
 have i0 := qaa V w.heap.size 0 _ _ _ hbx
 have i1 := qaa V w.heap.size 1 _ _ _ hbx
 have i2 := qaa V w.heap.size 2 _ _ _ hbx
 have i3 := qaa V w.heap.size 3 _ _ _ hbx
 have hlv : w.heap.size < V.heap.size := by omega
 have hob : Out V.drew v w.heap.size := ⟨hlv, fun e => by have := qcx hown _ e; omega⟩
 obtain ⟨kb, ko, rfl, hrow⟩ := hTW.row.resolve_left (fun e => by cases e)
 obtain ⟨Aa, ca, hha, hva⟩ := qaG (hrow.get 0 (by show _ < 2; decide))
 replace hva : TmV V.drew (Out V.drew v) a Aa ca := hva
 have ac0 : V.cell? ⟨kb, ko, none⟩ = some (.int .i64 a.kind) := hha.kind
 have ac1 : V.cell? ⟨kb, ko + 1, none⟩ = some (.string a.name) := hha.name
 have ac2 : V.cell? ⟨kb, ko + 2, none⟩ = some (.int .i64 a.num) := hha.num
 have ac3 : V.cell? ⟨kb, ko + 3, none⟩ = some (.slice Aa a.kids.length ca) := hha.kids
 have hkba : kb < V.heap.size := hha.at_.1
 have hokb : Out V.drew v kb := hha.at_
 clear hha
 obtain ⟨Ab, cb, hhb, hvb⟩ := qaG (hrow.get 1 (by show _ < 2; decide))
 replace hvb : TmV V.drew (Out V.drew v) b Ab cb := hvb
 have bc0 : V.cell? ⟨kb, ko + 4, none⟩ = some (.int .i64 b.kind) := hhb.kind
 have bc1 : V.cell? ⟨kb, ko + 4 + 1, none⟩ = some (.string b.name) := hhb.name
 have bc2 : V.cell? ⟨kb, ko + 4 + 2, none⟩ = some (.int .i64 b.num) := hhb.num
 have bc3 : V.cell? ⟨kb, ko + 4 + 3, none⟩ = some (.slice Ab b.kids.length cb) := hhb.kids
 clear hhb
 clear hrow
 have hlen : ts.length + (([.inl (kTok [108, 101, 116]), .inl (nTok s.data.toList), .inl (mTok [61]), .inr (a, Aa, ca), .inl (kTok [105, 110]), .inr (b, Ab, cb)] : List Pt).flatMap partT).length <= 1099511627776 := by rw [qfN] at hl; simpa [partT] using hl
 have hok : ∀ p ∈ ([.inl (kTok [108, 101, 116]), .inl (nTok s.data.toList), .inl (mTok [61]), .inr (a, Aa, ca), .inl (kTok [105, 110]), .inr (b, Ab, cb)] : List Pt), qcm p := by
   intro p hp
   simp only [List.mem_cons, List.not_mem_nil, or_false] at hp
   rcases hp with rfl | rfl | rfl | rfl | rfl | rfl
   . exact .inl ⟨.inr (.inl rfl), rfl⟩
   . exact .inl ⟨.inl rfl, rfl⟩
   . exact .inl ⟨.inr (.inr rfl), rfl⟩
   . exact trivial
   . exact .inl ⟨.inr (.inl rfl), rfl⟩
   . exact trivial
 have hkk : ∀ u, .inr u ∈ ([.inl (kTok [108, 101, 116]), .inl (nTok s.data.toList), .inl (mTok [61]), .inr (a, Aa, ca), .inl (kTok [105, 110]), .inr (b, Ab, cb)] : List Pt) -> qaB u.1 := by
   intro u hu
   simp at hu
   rcases hu with rfl | rfl
   . exact Ha
   . exact Hb
 have htt : ∀ u, .inr u ∈ ([.inl (kTok [108, 101, 116]), .inl (nTok s.data.toList), .inl (mTok [61]), .inr (a, Aa, ca), .inl (kTok [105, 110]), .inr (b, Ab, cb)] : List Pt) -> TmV V.drew (Out V.drew v) u.1 u.2.1 u.2.2 := by
   intro u hu
   simp at hu
   rcases hu with rfl | rfl
   . exact hva
   . exact hvb
 have kl0 := qbP [.inl (kTok [108, 101, 116]), .inl (nTok s.data.toList), .inl (mTok [61]), .inr (a, Aa, ca), .inl (kTok [105, 110]), .inr (b, Ab, cb)] hok hkk base v ts 6 V.drew 235 h8 hbs hEW hOW htt hlen (by show 6 <= _; decide)
 have kl : Calls Tryz.prog 123 #[v, .slice (some ⟨V.heap.size, 0, none⟩) 6 6] (V.drew.alloc (.cells #[.iface 193 (.string ⟨#[108, 101, 116]⟩), .iface 192 (.string s), .iface 194 (.string ⟨#[61]⟩), .iface 195 (.agg #[.int .i64 a.kind, .string a.name, .int .i64 a.num, .slice Aa a.kids.length ca]), .iface 193 (.string ⟨#[105, 110]⟩), .iface 195 (.agg #[.int .i64 b.kind, .string b.name, .int .i64 b.num, .slice Ab b.kids.length cb])] 235)) fun e w' => ∃ v', e = .returned v' /\ qam base ts (([.inl (kTok [108, 101, 116]), .inl (nTok s.data.toList), .inl (mTok [61]), .inr (a, Aa, ca), .inl (kTok [105, 110]), .inr (b, Ab, cb)] : List Pt).flatMap partT) V.drew v v' w' := kl0
 replace kl := hid kl
 have hend : Hid (∀ v' w', qam base ts (([.inl (kTok [108, 101, 116]), .inl (nTok s.data.toList), .inl (mTok [61]), .inr (a, Aa, ca), .inl (kTok [105, 110]), .inr (b, Ab, cb)] : List Pt).flatMap partT) V.drew v v' w' -> qam base ts (toksT (.node 5 s 0 [a, b])) w v v' w') := fun v' w' h => by
   have e : toksT (.node 5 s 0 [a, b]) = ([.inl (kTok [108, 101, 116]), .inl (nTok s.data.toList), .inl (mTok [61]), .inr (a, Aa, ca), .inl (kTok [105, 110]), .inr (b, Ab, cb)] : List Pt).flatMap partT := by rw [qfN]; first | rfl | simp [partT]
   rw [e]; exact h.of hgW
 have hS0 : (V).cell? ⟨w.heap.size, 1, none⟩ = some (.string s) /\ (V).cell? ⟨kb, ko, none⟩ = some (.int .i64 a.kind) /\ (V).cell? ⟨kb, ko + 1, none⟩ = some (.string a.name) /\ (V).cell? ⟨kb, ko + 2, none⟩ = some (.int .i64 a.num) /\ (V).cell? ⟨kb, ko + 3, none⟩ = some (.slice Aa a.kids.length ca) /\ (V).cell? ⟨kb, ko + 4, none⟩ = some (.int .i64 b.kind) /\ (V).cell? ⟨kb, ko + 4 + 1, none⟩ = some (.string b.name) /\ (V).cell? ⟨kb, ko + 4 + 2, none⟩ = some (.int .i64 b.num) /\ (V).cell? ⟨kb, ko + 4 + 3, none⟩ = some (.slice Ab b.kids.length cb) := ⟨i1, ac0, ac1, ac2, ac3, bc0, bc1, bc2, bc3⟩
 have hSa : Hid (((V.alloc (.cells #[.iface 193 (.string ⟨#[108, 101, 116]⟩), .iface 192 (.string s), .iface 194 (.string ⟨#[61]⟩), .iface 195 (.agg #[.int .i64 a.kind, .string a.name, .int .i64 a.num, .slice Aa a.kids.length ca]), .iface 193 (.string ⟨#[105, 110]⟩), .iface 195 (.agg #[.int .i64 b.kind, .string b.name, .int .i64 b.num, .slice Ab b.kids.length cb])] 235)).drew).cell? ⟨w.heap.size, 1, none⟩ = some (.string s) /\ ((V.alloc (.cells #[.iface 193 (.string ⟨#[108, 101, 116]⟩), .iface 192 (.string s), .iface 194 (.string ⟨#[61]⟩), .iface 195 (.agg #[.int .i64 a.kind, .string a.name, .int .i64 a.num, .slice Aa a.kids.length ca]), .iface 193 (.string ⟨#[105, 110]⟩), .iface 195 (.agg #[.int .i64 b.kind, .string b.name, .int .i64 b.num, .slice Ab b.kids.length cb])] 235)).drew).cell? ⟨kb, ko, none⟩ = some (.int .i64 a.kind) /\ ((V.alloc (.cells #[.iface 193 (.string ⟨#[108, 101, 116]⟩), .iface 192 (.string s), .iface 194 (.string ⟨#[61]⟩), .iface 195 (.agg #[.int .i64 a.kind, .string a.name, .int .i64 a.num, .slice Aa a.kids.length ca]), .iface 193 (.string ⟨#[105, 110]⟩), .iface 195 (.agg #[.int .i64 b.kind, .string b.name, .int .i64 b.num, .slice Ab b.kids.length cb])] 235)).drew).cell? ⟨kb, ko + 1, none⟩ = some (.string a.name) /\ ((V.alloc (.cells #[.iface 193 (.string ⟨#[108, 101, 116]⟩), .iface 192 (.string s), .iface 194 (.string ⟨#[61]⟩), .iface 195 (.agg #[.int .i64 a.kind, .string a.name, .int .i64 a.num, .slice Aa a.kids.length ca]), .iface 193 (.string ⟨#[105, 110]⟩), .iface 195 (.agg #[.int .i64 b.kind, .string b.name, .int .i64 b.num, .slice Ab b.kids.length cb])] 235)).drew).cell? ⟨kb, ko + 2, none⟩ = some (.int .i64 a.num) /\ ((V.alloc (.cells #[.iface 193 (.string ⟨#[108, 101, 116]⟩), .iface 192 (.string s), .iface 194 (.string ⟨#[61]⟩), .iface 195 (.agg #[.int .i64 a.kind, .string a.name, .int .i64 a.num, .slice Aa a.kids.length ca]), .iface 193 (.string ⟨#[105, 110]⟩), .iface 195 (.agg #[.int .i64 b.kind, .string b.name, .int .i64 b.num, .slice Ab b.kids.length cb])] 235)).drew).cell? ⟨kb, ko + 3, none⟩ = some (.slice Aa a.kids.length ca) /\ ((V.alloc (.cells #[.iface 193 (.string ⟨#[108, 101, 116]⟩), .iface 192 (.string s), .iface 194 (.string ⟨#[61]⟩), .iface 195 (.agg #[.int .i64 a.kind, .string a.name, .int .i64 a.num, .slice Aa a.kids.length ca]), .iface 193 (.string ⟨#[105, 110]⟩), .iface 195 (.agg #[.int .i64 b.kind, .string b.name, .int .i64 b.num, .slice Ab b.kids.length cb])] 235)).drew).cell? ⟨kb, ko + 4, none⟩ = some (.int .i64 b.kind) /\ ((V.alloc (.cells #[.iface 193 (.string ⟨#[108, 101, 116]⟩), .iface 192 (.string s), .iface 194 (.string ⟨#[61]⟩), .iface 195 (.agg #[.int .i64 a.kind, .string a.name, .int .i64 a.num, .slice Aa a.kids.length ca]), .iface 193 (.string ⟨#[105, 110]⟩), .iface 195 (.agg #[.int .i64 b.kind, .string b.name, .int .i64 b.num, .slice Ab b.kids.length cb])] 235)).drew).cell? ⟨kb, ko + 4 + 1, none⟩ = some (.string b.name) /\ ((V.alloc (.cells #[.iface 193 (.string ⟨#[108, 101, 116]⟩), .iface 192 (.string s), .iface 194 (.string ⟨#[61]⟩), .iface 195 (.agg #[.int .i64 a.kind, .string a.name, .int .i64 a.num, .slice Aa a.kids.length ca]), .iface 193 (.string ⟨#[105, 110]⟩), .iface 195 (.agg #[.int .i64 b.kind, .string b.name, .int .i64 b.num, .slice Ab b.kids.length cb])] 235)).drew).cell? ⟨kb, ko + 4 + 2, none⟩ = some (.int .i64 b.num) /\ ((V.alloc (.cells #[.iface 193 (.string ⟨#[108, 101, 116]⟩), .iface 192 (.string s), .iface 194 (.string ⟨#[61]⟩), .iface 195 (.agg #[.int .i64 a.kind, .string a.name, .int .i64 a.num, .slice Aa a.kids.length ca]), .iface 193 (.string ⟨#[105, 110]⟩), .iface 195 (.agg #[.int .i64 b.kind, .string b.name, .int .i64 b.num, .slice Ab b.kids.length cb])] 235)).drew).cell? ⟨kb, ko + 4 + 3, none⟩ = some (.slice Ab b.kids.length cb)) := ⟨((qab V (.cells #[.iface 193 (.string ⟨#[108, 101, 116]⟩), .iface 192 (.string s), .iface 194 (.string ⟨#[61]⟩), .iface 195 (.agg #[.int .i64 a.kind, .string a.name, .int .i64 a.num, .slice Aa a.kids.length ca]), .iface 193 (.string ⟨#[105, 110]⟩), .iface 195 (.agg #[.int .i64 b.kind, .string b.name, .int .i64 b.num, .slice Ab b.kids.length cb])] 235)).cell (p := ⟨w.heap.size, 1, none⟩) hlv).trans i1, ((qab V (.cells #[.iface 193 (.string ⟨#[108, 101, 116]⟩), .iface 192 (.string s), .iface 194 (.string ⟨#[61]⟩), .iface 195 (.agg #[.int .i64 a.kind, .string a.name, .int .i64 a.num, .slice Aa a.kids.length ca]), .iface 193 (.string ⟨#[105, 110]⟩), .iface 195 (.agg #[.int .i64 b.kind, .string b.name, .int .i64 b.num, .slice Ab b.kids.length cb])] 235)).cell (p := ⟨kb, ko, none⟩) hkba).trans ac0, ((qab V (.cells #[.iface 193 (.string ⟨#[108, 101, 116]⟩), .iface 192 (.string s), .iface 194 (.string ⟨#[61]⟩), .iface 195 (.agg #[.int .i64 a.kind, .string a.name, .int .i64 a.num, .slice Aa a.kids.length ca]), .iface 193 (.string ⟨#[105, 110]⟩), .iface 195 (.agg #[.int .i64 b.kind, .string b.name, .int .i64 b.num, .slice Ab b.kids.length cb])] 235)).cell (p := ⟨kb, ko + 1, none⟩) hkba).trans ac1, ((qab V (.cells #[.iface 193 (.string ⟨#[108, 101, 116]⟩), .iface 192 (.string s), .iface 194 (.string ⟨#[61]⟩), .iface 195 (.agg #[.int .i64 a.kind, .string a.name, .int .i64 a.num, .slice Aa a.kids.length ca]), .iface 193 (.string ⟨#[105, 110]⟩), .iface 195 (.agg #[.int .i64 b.kind, .string b.name, .int .i64 b.num, .slice Ab b.kids.length cb])] 235)).cell (p := ⟨kb, ko + 2, none⟩) hkba).trans ac2, ((qab V (.cells #[.iface 193 (.string ⟨#[108, 101, 116]⟩), .iface 192 (.string s), .iface 194 (.string ⟨#[61]⟩), .iface 195 (.agg #[.int .i64 a.kind, .string a.name, .int .i64 a.num, .slice Aa a.kids.length ca]), .iface 193 (.string ⟨#[105, 110]⟩), .iface 195 (.agg #[.int .i64 b.kind, .string b.name, .int .i64 b.num, .slice Ab b.kids.length cb])] 235)).cell (p := ⟨kb, ko + 3, none⟩) hkba).trans ac3, ((qab V (.cells #[.iface 193 (.string ⟨#[108, 101, 116]⟩), .iface 192 (.string s), .iface 194 (.string ⟨#[61]⟩), .iface 195 (.agg #[.int .i64 a.kind, .string a.name, .int .i64 a.num, .slice Aa a.kids.length ca]), .iface 193 (.string ⟨#[105, 110]⟩), .iface 195 (.agg #[.int .i64 b.kind, .string b.name, .int .i64 b.num, .slice Ab b.kids.length cb])] 235)).cell (p := ⟨kb, ko + 4, none⟩) hkba).trans bc0, ((qab V (.cells #[.iface 193 (.string ⟨#[108, 101, 116]⟩), .iface 192 (.string s), .iface 194 (.string ⟨#[61]⟩), .iface 195 (.agg #[.int .i64 a.kind, .string a.name, .int .i64 a.num, .slice Aa a.kids.length ca]), .iface 193 (.string ⟨#[105, 110]⟩), .iface 195 (.agg #[.int .i64 b.kind, .string b.name, .int .i64 b.num, .slice Ab b.kids.length cb])] 235)).cell (p := ⟨kb, ko + 4 + 1, none⟩) hkba).trans bc1, ((qab V (.cells #[.iface 193 (.string ⟨#[108, 101, 116]⟩), .iface 192 (.string s), .iface 194 (.string ⟨#[61]⟩), .iface 195 (.agg #[.int .i64 a.kind, .string a.name, .int .i64 a.num, .slice Aa a.kids.length ca]), .iface 193 (.string ⟨#[105, 110]⟩), .iface 195 (.agg #[.int .i64 b.kind, .string b.name, .int .i64 b.num, .slice Ab b.kids.length cb])] 235)).cell (p := ⟨kb, ko + 4 + 2, none⟩) hkba).trans bc2, ((qab V (.cells #[.iface 193 (.string ⟨#[108, 101, 116]⟩), .iface 192 (.string s), .iface 194 (.string ⟨#[61]⟩), .iface 195 (.agg #[.int .i64 a.kind, .string a.name, .int .i64 a.num, .slice Aa a.kids.length ca]), .iface 193 (.string ⟨#[105, 110]⟩), .iface 195 (.agg #[.int .i64 b.kind, .string b.name, .int .i64 b.num, .slice Ab b.kids.length cb])] 235)).cell (p := ⟨kb, ko + 4 + 3, none⟩) hkba).trans bc3⟩
 have hSk : Hid (∀ v1 w1, qam base ts (([.inl (kTok [108, 101, 116]), .inl (nTok s.data.toList), .inl (mTok [61]), .inr (a, Aa, ca), .inl (kTok [105, 110]), .inr (b, Ab, cb)] : List Pt).flatMap partT) V.drew v v1 w1 -> (w1).cell? ⟨w.heap.size, 1, none⟩ = some (.string s) /\ (w1).cell? ⟨kb, ko, none⟩ = some (.int .i64 a.kind) /\ (w1).cell? ⟨kb, ko + 1, none⟩ = some (.string a.name) /\ (w1).cell? ⟨kb, ko + 2, none⟩ = some (.int .i64 a.num) /\ (w1).cell? ⟨kb, ko + 3, none⟩ = some (.slice Aa a.kids.length ca) /\ (w1).cell? ⟨kb, ko + 4, none⟩ = some (.int .i64 b.kind) /\ (w1).cell? ⟨kb, ko + 4 + 1, none⟩ = some (.string b.name) /\ (w1).cell? ⟨kb, ko + 4 + 2, none⟩ = some (.int .i64 b.num) /\ (w1).cell? ⟨kb, ko + 4 + 3, none⟩ = some (.slice Ab b.kids.length cb)) := fun v1 w1 h => ⟨(h.2.cell (b := w.heap.size) (o := 1) hob).trans i1, (h.2.cell (b := kb) (o := ko) hokb).trans ac0, (h.2.cell (b := kb) (o := ko + 1) hokb).trans ac1, (h.2.cell (b := kb) (o := ko + 2) hokb).trans ac2, (h.2.cell (b := kb) (o := ko + 3) hokb).trans ac3, (h.2.cell (b := kb) (o := ko + 4) hokb).trans bc0, (h.2.cell (b := kb) (o := ko + 4 + 1) hokb).trans bc1, (h.2.cell (b := kb) (o := ko + 4 + 2) hokb).trans bc2, (h.2.cell (b := kb) (o := ko + 4 + 3) hokb).trans bc3⟩
 clear kl0 hbV hbW hgW hEW hOW hTW hT hown hE hok hkk htt hlen hl hva hvb
 replace hbx := hid hbx
 replace hV := hid hV
 replace hVs := hid hVs
 go_enter Tryz.func82, Tryz.ntmps82
 go_wp2_with fail
 try rw [hV.out]
 go_region_held3 (fun w' => (w').cell? ⟨w.heap.size, 1, none⟩ = some (.string s) /\ (w').cell? ⟨kb, ko, none⟩ = some (.int .i64 a.kind) /\ (w').cell? ⟨kb, ko + 1, none⟩ = some (.string a.name) /\ (w').cell? ⟨kb, ko + 2, none⟩ = some (.int .i64 a.num) /\ (w').cell? ⟨kb, ko + 3, none⟩ = some (.slice Aa a.kids.length ca) /\ (w').cell? ⟨kb, ko + 4, none⟩ = some (.int .i64 b.kind) /\ (w').cell? ⟨kb, ko + 4 + 1, none⟩ = some (.string b.name) /\ (w').cell? ⟨kb, ko + 4 + 2, none⟩ = some (.int .i64 b.num) /\ (w').cell? ⟨kb, ko + 4 + 3, none⟩ = some (.slice Ab b.kids.length cb)) (first | exact hS0 | exact hSa.out | exact hS1.out) (first | (go_at_call 123; refine kl.out.mono ?_; rintro e w1 ⟨v1, rfl, hp⟩; have hS1 := hid (hSk.out _ _ hp); replace hp := hid (hend.out _ _ hp); clear kl))
 all_goals go_wp2
 all_goals go_ret
 all_goals exact ⟨_, rfl, hp.out⟩
theorem qsZ (s : ByteArray)  (a : Go.Tm.T) (b : Go.Tm.T) (Ha : qaB a) (Hb : qaB b) : qbk (.node 9 s 0 [a, b]) := fun base v ts A c w h8 hbase hE hown hT hl => by
 have hbV : Below w.heap.size w (w.alloc (.cells #[.int .i64 9, .string s, .int .i64 0, .slice A 2 c] 26)) := qab _ _
 have hbx : (w.alloc (.cells #[.int .i64 9, .string s, .int .i64 0, .slice A 2 c] 26)).heap[w.heap.size]? = some (.cells #[.int .i64 9, .string s, .int .i64 0, .slice A 2 c] 26 (0, 0)) := World.alloc_heap_new _ _
 have hVs : (w.alloc (.cells #[.int .i64 9, .string s, .int .i64 0, .slice A 2 c] 26)).heap.size = w.heap.size + 1 := by simp
 show Calls Tryz.prog 82 #[v, .agg #[.int .i64 9, .string s, .int .i64 0, .slice A 2 c]] w _
 obtain ⟨V, hV⟩ : ∃ V, w.alloc (.cells #[.int .i64 9, .string s, .int .i64 0, .slice A 2 c] 26) = V := ⟨_, rfl⟩
 rw [hV] at hbV hbx hVs
 have hbW : Below w.heap.size w V.drew := hbV.drew
 have hgW : Gr w V.drew v v := Gr.of_below hbW
 have hEW := hE.below (Nat.le_refl _) (hbW.mono hE.size)
 have hOW := qaM hown hbW
 have hTW := hgW.tm hT
 have hbs : base <= (V.drew).heap.size := Nat.le_trans hbase hbW.size
 have i0 := qaa V w.heap.size 0 _ _ _ hbx
 have i1 := qaa V w.heap.size 1 _ _ _ hbx
 have i2 := qaa V w.heap.size 2 _ _ _ hbx
 have i3 := qaa V w.heap.size 3 _ _ _ hbx
 have hlv : w.heap.size < V.heap.size := by omega
 have hob : Out V.drew v w.heap.size := ⟨hlv, fun e => by have := qcx hown _ e; omega⟩
 obtain ⟨kb, ko, rfl, hrow⟩ := hTW.row.resolve_left (fun e => by cases e)
 obtain ⟨Aa, ca, hha, hva⟩ := qaG (hrow.get 0 (by show _ < 2; decide))
 replace hva : TmV V.drew (Out V.drew v) a Aa ca := hva
 have ac0 : V.cell? ⟨kb, ko, none⟩ = some (.int .i64 a.kind) := hha.kind
 have ac1 : V.cell? ⟨kb, ko + 1, none⟩ = some (.string a.name) := hha.name
 have ac2 : V.cell? ⟨kb, ko + 2, none⟩ = some (.int .i64 a.num) := hha.num
 have ac3 : V.cell? ⟨kb, ko + 3, none⟩ = some (.slice Aa a.kids.length ca) := hha.kids
 have hkba : kb < V.heap.size := hha.at_.1
 have hokb : Out V.drew v kb := hha.at_
 clear hha
 obtain ⟨Ab, cb, hhb, hvb⟩ := qaG (hrow.get 1 (by show _ < 2; decide))
 replace hvb : TmV V.drew (Out V.drew v) b Ab cb := hvb
 have bc0 : V.cell? ⟨kb, ko + 4, none⟩ = some (.int .i64 b.kind) := hhb.kind
 have bc1 : V.cell? ⟨kb, ko + 4 + 1, none⟩ = some (.string b.name) := hhb.name
 have bc2 : V.cell? ⟨kb, ko + 4 + 2, none⟩ = some (.int .i64 b.num) := hhb.num
 have bc3 : V.cell? ⟨kb, ko + 4 + 3, none⟩ = some (.slice Ab b.kids.length cb) := hhb.kids
 clear hhb
 clear hrow
 have hlen : ts.length + (([.inl (kTok [116, 114, 121]), .inr (a, Aa, ca), .inl (kTok [119, 105, 116, 104]), .inl (nTok s.data.toList), .inl (mTok [61, 62]), .inr (b, Ab, cb)] : List Pt).flatMap partT).length <= 1099511627776 := by rw [qfR] at hl; simpa [partT] using hl
 have hok : ∀ p ∈ ([.inl (kTok [116, 114, 121]), .inr (a, Aa, ca), .inl (kTok [119, 105, 116, 104]), .inl (nTok s.data.toList), .inl (mTok [61, 62]), .inr (b, Ab, cb)] : List Pt), qcm p := by
   intro p hp
   simp only [List.mem_cons, List.not_mem_nil, or_false] at hp
   rcases hp with rfl | rfl | rfl | rfl | rfl | rfl
   . exact .inl ⟨.inr (.inl rfl), rfl⟩
   . exact trivial
   . exact .inl ⟨.inr (.inl rfl), rfl⟩
   . exact .inl ⟨.inl rfl, rfl⟩
   . exact .inl ⟨.inr (.inr rfl), rfl⟩
   . exact trivial
 have hkk : ∀ u, .inr u ∈ ([.inl (kTok [116, 114, 121]), .inr (a, Aa, ca), .inl (kTok [119, 105, 116, 104]), .inl (nTok s.data.toList), .inl (mTok [61, 62]), .inr (b, Ab, cb)] : List Pt) -> qaB u.1 := by
   intro u hu
   simp at hu
   rcases hu with rfl | rfl
   . exact Ha
   . exact Hb
 have htt : ∀ u, .inr u ∈ ([.inl (kTok [116, 114, 121]), .inr (a, Aa, ca), .inl (kTok [119, 105, 116, 104]), .inl (nTok s.data.toList), .inl (mTok [61, 62]), .inr (b, Ab, cb)] : List Pt) -> TmV V.drew (Out V.drew v) u.1 u.2.1 u.2.2 := by
   intro u hu
   simp at hu
   rcases hu with rfl | rfl
   . exact hva
   . exact hvb
 have kl0 := qbP [.inl (kTok [116, 114, 121]), .inr (a, Aa, ca), .inl (kTok [119, 105, 116, 104]), .inl (nTok s.data.toList), .inl (mTok [61, 62]), .inr (b, Ab, cb)] hok hkk base v ts 6 V.drew 235 h8 hbs hEW hOW htt hlen (by show 6 <= _; decide)
 have kl : Calls Tryz.prog 123 #[v, .slice (some ⟨V.heap.size, 0, none⟩) 6 6] (V.drew.alloc (.cells #[.iface 193 (.string ⟨#[116, 114, 121]⟩), .iface 195 (.agg #[.int .i64 a.kind, .string a.name, .int .i64 a.num, .slice Aa a.kids.length ca]), .iface 193 (.string ⟨#[119, 105, 116, 104]⟩), .iface 192 (.string s), .iface 194 (.string ⟨#[61, 62]⟩), .iface 195 (.agg #[.int .i64 b.kind, .string b.name, .int .i64 b.num, .slice Ab b.kids.length cb])] 235)) fun e w' => ∃ v', e = .returned v' /\ qam base ts (([.inl (kTok [116, 114, 121]), .inr (a, Aa, ca), .inl (kTok [119, 105, 116, 104]), .inl (nTok s.data.toList), .inl (mTok [61, 62]), .inr (b, Ab, cb)] : List Pt).flatMap partT) V.drew v v' w' := kl0
 replace kl := hid kl
 have hend : Hid (∀ v' w', qam base ts (([.inl (kTok [116, 114, 121]), .inr (a, Aa, ca), .inl (kTok [119, 105, 116, 104]), .inl (nTok s.data.toList), .inl (mTok [61, 62]), .inr (b, Ab, cb)] : List Pt).flatMap partT) V.drew v v' w' -> qam base ts (toksT (.node 9 s 0 [a, b])) w v v' w') := fun v' w' h => by
   have e : toksT (.node 9 s 0 [a, b]) = ([.inl (kTok [116, 114, 121]), .inr (a, Aa, ca), .inl (kTok [119, 105, 116, 104]), .inl (nTok s.data.toList), .inl (mTok [61, 62]), .inr (b, Ab, cb)] : List Pt).flatMap partT := by rw [qfR]; first | rfl | simp [partT]
   rw [e]; exact h.of hgW
 have hS0 : (V).cell? ⟨w.heap.size, 1, none⟩ = some (.string s) /\ (V).cell? ⟨kb, ko, none⟩ = some (.int .i64 a.kind) /\ (V).cell? ⟨kb, ko + 1, none⟩ = some (.string a.name) /\ (V).cell? ⟨kb, ko + 2, none⟩ = some (.int .i64 a.num) /\ (V).cell? ⟨kb, ko + 3, none⟩ = some (.slice Aa a.kids.length ca) /\ (V).cell? ⟨kb, ko + 4, none⟩ = some (.int .i64 b.kind) /\ (V).cell? ⟨kb, ko + 4 + 1, none⟩ = some (.string b.name) /\ (V).cell? ⟨kb, ko + 4 + 2, none⟩ = some (.int .i64 b.num) /\ (V).cell? ⟨kb, ko + 4 + 3, none⟩ = some (.slice Ab b.kids.length cb) := ⟨i1, ac0, ac1, ac2, ac3, bc0, bc1, bc2, bc3⟩
 have hSa : Hid (((V.alloc (.cells #[.iface 193 (.string ⟨#[116, 114, 121]⟩), .iface 195 (.agg #[.int .i64 a.kind, .string a.name, .int .i64 a.num, .slice Aa a.kids.length ca]), .iface 193 (.string ⟨#[119, 105, 116, 104]⟩), .iface 192 (.string s), .iface 194 (.string ⟨#[61, 62]⟩), .iface 195 (.agg #[.int .i64 b.kind, .string b.name, .int .i64 b.num, .slice Ab b.kids.length cb])] 235)).drew).cell? ⟨w.heap.size, 1, none⟩ = some (.string s) /\ ((V.alloc (.cells #[.iface 193 (.string ⟨#[116, 114, 121]⟩), .iface 195 (.agg #[.int .i64 a.kind, .string a.name, .int .i64 a.num, .slice Aa a.kids.length ca]), .iface 193 (.string ⟨#[119, 105, 116, 104]⟩), .iface 192 (.string s), .iface 194 (.string ⟨#[61, 62]⟩), .iface 195 (.agg #[.int .i64 b.kind, .string b.name, .int .i64 b.num, .slice Ab b.kids.length cb])] 235)).drew).cell? ⟨kb, ko, none⟩ = some (.int .i64 a.kind) /\ ((V.alloc (.cells #[.iface 193 (.string ⟨#[116, 114, 121]⟩), .iface 195 (.agg #[.int .i64 a.kind, .string a.name, .int .i64 a.num, .slice Aa a.kids.length ca]), .iface 193 (.string ⟨#[119, 105, 116, 104]⟩), .iface 192 (.string s), .iface 194 (.string ⟨#[61, 62]⟩), .iface 195 (.agg #[.int .i64 b.kind, .string b.name, .int .i64 b.num, .slice Ab b.kids.length cb])] 235)).drew).cell? ⟨kb, ko + 1, none⟩ = some (.string a.name) /\ ((V.alloc (.cells #[.iface 193 (.string ⟨#[116, 114, 121]⟩), .iface 195 (.agg #[.int .i64 a.kind, .string a.name, .int .i64 a.num, .slice Aa a.kids.length ca]), .iface 193 (.string ⟨#[119, 105, 116, 104]⟩), .iface 192 (.string s), .iface 194 (.string ⟨#[61, 62]⟩), .iface 195 (.agg #[.int .i64 b.kind, .string b.name, .int .i64 b.num, .slice Ab b.kids.length cb])] 235)).drew).cell? ⟨kb, ko + 2, none⟩ = some (.int .i64 a.num) /\ ((V.alloc (.cells #[.iface 193 (.string ⟨#[116, 114, 121]⟩), .iface 195 (.agg #[.int .i64 a.kind, .string a.name, .int .i64 a.num, .slice Aa a.kids.length ca]), .iface 193 (.string ⟨#[119, 105, 116, 104]⟩), .iface 192 (.string s), .iface 194 (.string ⟨#[61, 62]⟩), .iface 195 (.agg #[.int .i64 b.kind, .string b.name, .int .i64 b.num, .slice Ab b.kids.length cb])] 235)).drew).cell? ⟨kb, ko + 3, none⟩ = some (.slice Aa a.kids.length ca) /\ ((V.alloc (.cells #[.iface 193 (.string ⟨#[116, 114, 121]⟩), .iface 195 (.agg #[.int .i64 a.kind, .string a.name, .int .i64 a.num, .slice Aa a.kids.length ca]), .iface 193 (.string ⟨#[119, 105, 116, 104]⟩), .iface 192 (.string s), .iface 194 (.string ⟨#[61, 62]⟩), .iface 195 (.agg #[.int .i64 b.kind, .string b.name, .int .i64 b.num, .slice Ab b.kids.length cb])] 235)).drew).cell? ⟨kb, ko + 4, none⟩ = some (.int .i64 b.kind) /\ ((V.alloc (.cells #[.iface 193 (.string ⟨#[116, 114, 121]⟩), .iface 195 (.agg #[.int .i64 a.kind, .string a.name, .int .i64 a.num, .slice Aa a.kids.length ca]), .iface 193 (.string ⟨#[119, 105, 116, 104]⟩), .iface 192 (.string s), .iface 194 (.string ⟨#[61, 62]⟩), .iface 195 (.agg #[.int .i64 b.kind, .string b.name, .int .i64 b.num, .slice Ab b.kids.length cb])] 235)).drew).cell? ⟨kb, ko + 4 + 1, none⟩ = some (.string b.name) /\ ((V.alloc (.cells #[.iface 193 (.string ⟨#[116, 114, 121]⟩), .iface 195 (.agg #[.int .i64 a.kind, .string a.name, .int .i64 a.num, .slice Aa a.kids.length ca]), .iface 193 (.string ⟨#[119, 105, 116, 104]⟩), .iface 192 (.string s), .iface 194 (.string ⟨#[61, 62]⟩), .iface 195 (.agg #[.int .i64 b.kind, .string b.name, .int .i64 b.num, .slice Ab b.kids.length cb])] 235)).drew).cell? ⟨kb, ko + 4 + 2, none⟩ = some (.int .i64 b.num) /\ ((V.alloc (.cells #[.iface 193 (.string ⟨#[116, 114, 121]⟩), .iface 195 (.agg #[.int .i64 a.kind, .string a.name, .int .i64 a.num, .slice Aa a.kids.length ca]), .iface 193 (.string ⟨#[119, 105, 116, 104]⟩), .iface 192 (.string s), .iface 194 (.string ⟨#[61, 62]⟩), .iface 195 (.agg #[.int .i64 b.kind, .string b.name, .int .i64 b.num, .slice Ab b.kids.length cb])] 235)).drew).cell? ⟨kb, ko + 4 + 3, none⟩ = some (.slice Ab b.kids.length cb)) := ⟨((qab V (.cells #[.iface 193 (.string ⟨#[116, 114, 121]⟩), .iface 195 (.agg #[.int .i64 a.kind, .string a.name, .int .i64 a.num, .slice Aa a.kids.length ca]), .iface 193 (.string ⟨#[119, 105, 116, 104]⟩), .iface 192 (.string s), .iface 194 (.string ⟨#[61, 62]⟩), .iface 195 (.agg #[.int .i64 b.kind, .string b.name, .int .i64 b.num, .slice Ab b.kids.length cb])] 235)).cell (p := ⟨w.heap.size, 1, none⟩) hlv).trans i1, ((qab V (.cells #[.iface 193 (.string ⟨#[116, 114, 121]⟩), .iface 195 (.agg #[.int .i64 a.kind, .string a.name, .int .i64 a.num, .slice Aa a.kids.length ca]), .iface 193 (.string ⟨#[119, 105, 116, 104]⟩), .iface 192 (.string s), .iface 194 (.string ⟨#[61, 62]⟩), .iface 195 (.agg #[.int .i64 b.kind, .string b.name, .int .i64 b.num, .slice Ab b.kids.length cb])] 235)).cell (p := ⟨kb, ko, none⟩) hkba).trans ac0, ((qab V (.cells #[.iface 193 (.string ⟨#[116, 114, 121]⟩), .iface 195 (.agg #[.int .i64 a.kind, .string a.name, .int .i64 a.num, .slice Aa a.kids.length ca]), .iface 193 (.string ⟨#[119, 105, 116, 104]⟩), .iface 192 (.string s), .iface 194 (.string ⟨#[61, 62]⟩), .iface 195 (.agg #[.int .i64 b.kind, .string b.name, .int .i64 b.num, .slice Ab b.kids.length cb])] 235)).cell (p := ⟨kb, ko + 1, none⟩) hkba).trans ac1, ((qab V (.cells #[.iface 193 (.string ⟨#[116, 114, 121]⟩), .iface 195 (.agg #[.int .i64 a.kind, .string a.name, .int .i64 a.num, .slice Aa a.kids.length ca]), .iface 193 (.string ⟨#[119, 105, 116, 104]⟩), .iface 192 (.string s), .iface 194 (.string ⟨#[61, 62]⟩), .iface 195 (.agg #[.int .i64 b.kind, .string b.name, .int .i64 b.num, .slice Ab b.kids.length cb])] 235)).cell (p := ⟨kb, ko + 2, none⟩) hkba).trans ac2, ((qab V (.cells #[.iface 193 (.string ⟨#[116, 114, 121]⟩), .iface 195 (.agg #[.int .i64 a.kind, .string a.name, .int .i64 a.num, .slice Aa a.kids.length ca]), .iface 193 (.string ⟨#[119, 105, 116, 104]⟩), .iface 192 (.string s), .iface 194 (.string ⟨#[61, 62]⟩), .iface 195 (.agg #[.int .i64 b.kind, .string b.name, .int .i64 b.num, .slice Ab b.kids.length cb])] 235)).cell (p := ⟨kb, ko + 3, none⟩) hkba).trans ac3, ((qab V (.cells #[.iface 193 (.string ⟨#[116, 114, 121]⟩), .iface 195 (.agg #[.int .i64 a.kind, .string a.name, .int .i64 a.num, .slice Aa a.kids.length ca]), .iface 193 (.string ⟨#[119, 105, 116, 104]⟩), .iface 192 (.string s), .iface 194 (.string ⟨#[61, 62]⟩), .iface 195 (.agg #[.int .i64 b.kind, .string b.name, .int .i64 b.num, .slice Ab b.kids.length cb])] 235)).cell (p := ⟨kb, ko + 4, none⟩) hkba).trans bc0, ((qab V (.cells #[.iface 193 (.string ⟨#[116, 114, 121]⟩), .iface 195 (.agg #[.int .i64 a.kind, .string a.name, .int .i64 a.num, .slice Aa a.kids.length ca]), .iface 193 (.string ⟨#[119, 105, 116, 104]⟩), .iface 192 (.string s), .iface 194 (.string ⟨#[61, 62]⟩), .iface 195 (.agg #[.int .i64 b.kind, .string b.name, .int .i64 b.num, .slice Ab b.kids.length cb])] 235)).cell (p := ⟨kb, ko + 4 + 1, none⟩) hkba).trans bc1, ((qab V (.cells #[.iface 193 (.string ⟨#[116, 114, 121]⟩), .iface 195 (.agg #[.int .i64 a.kind, .string a.name, .int .i64 a.num, .slice Aa a.kids.length ca]), .iface 193 (.string ⟨#[119, 105, 116, 104]⟩), .iface 192 (.string s), .iface 194 (.string ⟨#[61, 62]⟩), .iface 195 (.agg #[.int .i64 b.kind, .string b.name, .int .i64 b.num, .slice Ab b.kids.length cb])] 235)).cell (p := ⟨kb, ko + 4 + 2, none⟩) hkba).trans bc2, ((qab V (.cells #[.iface 193 (.string ⟨#[116, 114, 121]⟩), .iface 195 (.agg #[.int .i64 a.kind, .string a.name, .int .i64 a.num, .slice Aa a.kids.length ca]), .iface 193 (.string ⟨#[119, 105, 116, 104]⟩), .iface 192 (.string s), .iface 194 (.string ⟨#[61, 62]⟩), .iface 195 (.agg #[.int .i64 b.kind, .string b.name, .int .i64 b.num, .slice Ab b.kids.length cb])] 235)).cell (p := ⟨kb, ko + 4 + 3, none⟩) hkba).trans bc3⟩
 have hSk : Hid (∀ v1 w1, qam base ts (([.inl (kTok [116, 114, 121]), .inr (a, Aa, ca), .inl (kTok [119, 105, 116, 104]), .inl (nTok s.data.toList), .inl (mTok [61, 62]), .inr (b, Ab, cb)] : List Pt).flatMap partT) V.drew v v1 w1 -> (w1).cell? ⟨w.heap.size, 1, none⟩ = some (.string s) /\ (w1).cell? ⟨kb, ko, none⟩ = some (.int .i64 a.kind) /\ (w1).cell? ⟨kb, ko + 1, none⟩ = some (.string a.name) /\ (w1).cell? ⟨kb, ko + 2, none⟩ = some (.int .i64 a.num) /\ (w1).cell? ⟨kb, ko + 3, none⟩ = some (.slice Aa a.kids.length ca) /\ (w1).cell? ⟨kb, ko + 4, none⟩ = some (.int .i64 b.kind) /\ (w1).cell? ⟨kb, ko + 4 + 1, none⟩ = some (.string b.name) /\ (w1).cell? ⟨kb, ko + 4 + 2, none⟩ = some (.int .i64 b.num) /\ (w1).cell? ⟨kb, ko + 4 + 3, none⟩ = some (.slice Ab b.kids.length cb)) := fun v1 w1 h => ⟨(h.2.cell (b := w.heap.size) (o := 1) hob).trans i1, (h.2.cell (b := kb) (o := ko) hokb).trans ac0, (h.2.cell (b := kb) (o := ko + 1) hokb).trans ac1, (h.2.cell (b := kb) (o := ko + 2) hokb).trans ac2, (h.2.cell (b := kb) (o := ko + 3) hokb).trans ac3, (h.2.cell (b := kb) (o := ko + 4) hokb).trans bc0, (h.2.cell (b := kb) (o := ko + 4 + 1) hokb).trans bc1, (h.2.cell (b := kb) (o := ko + 4 + 2) hokb).trans bc2, (h.2.cell (b := kb) (o := ko + 4 + 3) hokb).trans bc3⟩
 clear kl0 hbV hbW hgW hEW hOW hTW hT hown hE hok hkk htt hlen hl hva hvb
 replace hbx := hid hbx
 replace hV := hid hV
 replace hVs := hid hVs
 go_enter Tryz.func82, Tryz.ntmps82
 go_wp2_with fail
 try rw [hV.out]
 go_region_held3 (fun w' => (w').cell? ⟨w.heap.size, 1, none⟩ = some (.string s) /\ (w').cell? ⟨kb, ko, none⟩ = some (.int .i64 a.kind) /\ (w').cell? ⟨kb, ko + 1, none⟩ = some (.string a.name) /\ (w').cell? ⟨kb, ko + 2, none⟩ = some (.int .i64 a.num) /\ (w').cell? ⟨kb, ko + 3, none⟩ = some (.slice Aa a.kids.length ca) /\ (w').cell? ⟨kb, ko + 4, none⟩ = some (.int .i64 b.kind) /\ (w').cell? ⟨kb, ko + 4 + 1, none⟩ = some (.string b.name) /\ (w').cell? ⟨kb, ko + 4 + 2, none⟩ = some (.int .i64 b.num) /\ (w').cell? ⟨kb, ko + 4 + 3, none⟩ = some (.slice Ab b.kids.length cb)) (first | exact hS0 | exact hSa.out | exact hS1.out) (first | (go_at_call 123; refine kl.out.mono ?_; rintro e w1 ⟨v1, rfl, hp⟩; have hS1 := hid (hSk.out _ _ hp); replace hp := hid (hend.out _ _ hp); clear kl))
 all_goals go_wp2
 all_goals go_ret
 all_goals exact ⟨_, rfl, hp.out⟩
theorem qta  (a : Go.Tm.T) (b : Go.Tm.T) (d : Go.Tm.T) (Ha : qaB a) (Hb : qaB b) (Hd : qaB d) : qbk (.node 6 ⟨#[]⟩ 0 [a, b, d]) := fun base v ts A c w h8 hbase hE hown hT hl => by
 have hbV : Below w.heap.size w (w.alloc (.cells #[.int .i64 6, .string ⟨#[]⟩, .int .i64 0, .slice A 3 c] 26)) := qab _ _
 have hbx : (w.alloc (.cells #[.int .i64 6, .string ⟨#[]⟩, .int .i64 0, .slice A 3 c] 26)).heap[w.heap.size]? = some (.cells #[.int .i64 6, .string ⟨#[]⟩, .int .i64 0, .slice A 3 c] 26 (0, 0)) := World.alloc_heap_new _ _
 have hVs : (w.alloc (.cells #[.int .i64 6, .string ⟨#[]⟩, .int .i64 0, .slice A 3 c] 26)).heap.size = w.heap.size + 1 := by simp
 show Calls Tryz.prog 82 #[v, .agg #[.int .i64 6, .string ⟨#[]⟩, .int .i64 0, .slice A 3 c]] w _
 obtain ⟨V, hV⟩ : ∃ V, w.alloc (.cells #[.int .i64 6, .string ⟨#[]⟩, .int .i64 0, .slice A 3 c] 26) = V := ⟨_, rfl⟩
 rw [hV] at hbV hbx hVs
 have hbW : Below w.heap.size w V.drew := hbV.drew
 have hgW : Gr w V.drew v v := Gr.of_below hbW
 have hEW := hE.below (Nat.le_refl _) (hbW.mono hE.size)
 have hOW := qaM hown hbW
 have hTW := hgW.tm hT
 have hbs : base <= (V.drew).heap.size := Nat.le_trans hbase hbW.size
 have i0 := qaa V w.heap.size 0 _ _ _ hbx
 have i1 := qaa V w.heap.size 1 _ _ _ hbx
 have i2 := qaa V w.heap.size 2 _ _ _ hbx
 have i3 := qaa V w.heap.size 3 _ _ _ hbx
 have hlv : w.heap.size < V.heap.size := by omega
 have hob : Out V.drew v w.heap.size := ⟨hlv, fun e => by have := qcx hown _ e; omega⟩
 obtain ⟨kb, ko, rfl, hrow⟩ := hTW.row.resolve_left (fun e => by cases e)
 obtain ⟨Aa, ca, hha, hva⟩ := qaG (hrow.get 0 (by show _ < 3; decide))
 replace hva : TmV V.drew (Out V.drew v) a Aa ca := hva
 have ac0 : V.cell? ⟨kb, ko, none⟩ = some (.int .i64 a.kind) := hha.kind
 have ac1 : V.cell? ⟨kb, ko + 1, none⟩ = some (.string a.name) := hha.name
 have ac2 : V.cell? ⟨kb, ko + 2, none⟩ = some (.int .i64 a.num) := hha.num
 have ac3 : V.cell? ⟨kb, ko + 3, none⟩ = some (.slice Aa a.kids.length ca) := hha.kids
 have hkba : kb < V.heap.size := hha.at_.1
 have hokb : Out V.drew v kb := hha.at_
 clear hha
 obtain ⟨Ab, cb, hhb, hvb⟩ := qaG (hrow.get 1 (by show _ < 3; decide))
 replace hvb : TmV V.drew (Out V.drew v) b Ab cb := hvb
 have bc0 : V.cell? ⟨kb, ko + 4, none⟩ = some (.int .i64 b.kind) := hhb.kind
 have bc1 : V.cell? ⟨kb, ko + 4 + 1, none⟩ = some (.string b.name) := hhb.name
 have bc2 : V.cell? ⟨kb, ko + 4 + 2, none⟩ = some (.int .i64 b.num) := hhb.num
 have bc3 : V.cell? ⟨kb, ko + 4 + 3, none⟩ = some (.slice Ab b.kids.length cb) := hhb.kids
 clear hhb
 obtain ⟨Ad, cd, hhd, hvd⟩ := qaG (hrow.get 2 (by show _ < 3; decide))
 replace hvd : TmV V.drew (Out V.drew v) d Ad cd := hvd
 have dc0 : V.cell? ⟨kb, ko + 8, none⟩ = some (.int .i64 d.kind) := hhd.kind
 have dc1 : V.cell? ⟨kb, ko + 8 + 1, none⟩ = some (.string d.name) := hhd.name
 have dc2 : V.cell? ⟨kb, ko + 8 + 2, none⟩ = some (.int .i64 d.num) := hhd.num
 have dc3 : V.cell? ⟨kb, ko + 8 + 3, none⟩ = some (.slice Ad d.kids.length cd) := hhd.kids
 clear hhd
 clear hrow
 have hlen : ts.length + (([.inl (kTok [105, 102]), .inr (a, Aa, ca), .inl (kTok [116, 104, 101, 110]), .inr (b, Ab, cb), .inl (kTok [101, 108, 115, 101]), .inr (d, Ad, cd)] : List Pt).flatMap partT).length <= 1099511627776 := by rw [qfO] at hl; simpa [partT] using hl
 have hok : ∀ p ∈ ([.inl (kTok [105, 102]), .inr (a, Aa, ca), .inl (kTok [116, 104, 101, 110]), .inr (b, Ab, cb), .inl (kTok [101, 108, 115, 101]), .inr (d, Ad, cd)] : List Pt), qcm p := by
   intro p hp
   simp only [List.mem_cons, List.not_mem_nil, or_false] at hp
   rcases hp with rfl | rfl | rfl | rfl | rfl | rfl
   . exact .inl ⟨.inr (.inl rfl), rfl⟩
   . exact trivial
   . exact .inl ⟨.inr (.inl rfl), rfl⟩
   . exact trivial
   . exact .inl ⟨.inr (.inl rfl), rfl⟩
   . exact trivial
 have hkk : ∀ u, .inr u ∈ ([.inl (kTok [105, 102]), .inr (a, Aa, ca), .inl (kTok [116, 104, 101, 110]), .inr (b, Ab, cb), .inl (kTok [101, 108, 115, 101]), .inr (d, Ad, cd)] : List Pt) -> qaB u.1 := by
   intro u hu
   simp at hu
   rcases hu with rfl | rfl | rfl
   . exact Ha
   . exact Hb
   . exact Hd
 have htt : ∀ u, .inr u ∈ ([.inl (kTok [105, 102]), .inr (a, Aa, ca), .inl (kTok [116, 104, 101, 110]), .inr (b, Ab, cb), .inl (kTok [101, 108, 115, 101]), .inr (d, Ad, cd)] : List Pt) -> TmV V.drew (Out V.drew v) u.1 u.2.1 u.2.2 := by
   intro u hu
   simp at hu
   rcases hu with rfl | rfl | rfl
   . exact hva
   . exact hvb
   . exact hvd
 have kl0 := qbP [.inl (kTok [105, 102]), .inr (a, Aa, ca), .inl (kTok [116, 104, 101, 110]), .inr (b, Ab, cb), .inl (kTok [101, 108, 115, 101]), .inr (d, Ad, cd)] hok hkk base v ts 6 V.drew 235 h8 hbs hEW hOW htt hlen (by show 6 <= _; decide)
 have kl : Calls Tryz.prog 123 #[v, .slice (some ⟨V.heap.size, 0, none⟩) 6 6] (V.drew.alloc (.cells #[.iface 193 (.string ⟨#[105, 102]⟩), .iface 195 (.agg #[.int .i64 a.kind, .string a.name, .int .i64 a.num, .slice Aa a.kids.length ca]), .iface 193 (.string ⟨#[116, 104, 101, 110]⟩), .iface 195 (.agg #[.int .i64 b.kind, .string b.name, .int .i64 b.num, .slice Ab b.kids.length cb]), .iface 193 (.string ⟨#[101, 108, 115, 101]⟩), .iface 195 (.agg #[.int .i64 d.kind, .string d.name, .int .i64 d.num, .slice Ad d.kids.length cd])] 235)) fun e w' => ∃ v', e = .returned v' /\ qam base ts (([.inl (kTok [105, 102]), .inr (a, Aa, ca), .inl (kTok [116, 104, 101, 110]), .inr (b, Ab, cb), .inl (kTok [101, 108, 115, 101]), .inr (d, Ad, cd)] : List Pt).flatMap partT) V.drew v v' w' := kl0
 replace kl := hid kl
 have hend : Hid (∀ v' w', qam base ts (([.inl (kTok [105, 102]), .inr (a, Aa, ca), .inl (kTok [116, 104, 101, 110]), .inr (b, Ab, cb), .inl (kTok [101, 108, 115, 101]), .inr (d, Ad, cd)] : List Pt).flatMap partT) V.drew v v' w' -> qam base ts (toksT (.node 6 ⟨#[]⟩ 0 [a, b, d])) w v v' w') := fun v' w' h => by
   have e : toksT (.node 6 ⟨#[]⟩ 0 [a, b, d]) = ([.inl (kTok [105, 102]), .inr (a, Aa, ca), .inl (kTok [116, 104, 101, 110]), .inr (b, Ab, cb), .inl (kTok [101, 108, 115, 101]), .inr (d, Ad, cd)] : List Pt).flatMap partT := by rw [qfO]; first | rfl | simp [partT]
   rw [e]; exact h.of hgW
 have hS0 : (V).cell? ⟨kb, ko, none⟩ = some (.int .i64 a.kind) /\ (V).cell? ⟨kb, ko + 1, none⟩ = some (.string a.name) /\ (V).cell? ⟨kb, ko + 2, none⟩ = some (.int .i64 a.num) /\ (V).cell? ⟨kb, ko + 3, none⟩ = some (.slice Aa a.kids.length ca) /\ (V).cell? ⟨kb, ko + 4, none⟩ = some (.int .i64 b.kind) /\ (V).cell? ⟨kb, ko + 4 + 1, none⟩ = some (.string b.name) /\ (V).cell? ⟨kb, ko + 4 + 2, none⟩ = some (.int .i64 b.num) /\ (V).cell? ⟨kb, ko + 4 + 3, none⟩ = some (.slice Ab b.kids.length cb) /\ (V).cell? ⟨kb, ko + 8, none⟩ = some (.int .i64 d.kind) /\ (V).cell? ⟨kb, ko + 8 + 1, none⟩ = some (.string d.name) /\ (V).cell? ⟨kb, ko + 8 + 2, none⟩ = some (.int .i64 d.num) /\ (V).cell? ⟨kb, ko + 8 + 3, none⟩ = some (.slice Ad d.kids.length cd) := ⟨ac0, ac1, ac2, ac3, bc0, bc1, bc2, bc3, dc0, dc1, dc2, dc3⟩
 have hSa : Hid (((V.alloc (.cells #[.iface 193 (.string ⟨#[105, 102]⟩), .iface 195 (.agg #[.int .i64 a.kind, .string a.name, .int .i64 a.num, .slice Aa a.kids.length ca]), .iface 193 (.string ⟨#[116, 104, 101, 110]⟩), .iface 195 (.agg #[.int .i64 b.kind, .string b.name, .int .i64 b.num, .slice Ab b.kids.length cb]), .iface 193 (.string ⟨#[101, 108, 115, 101]⟩), .iface 195 (.agg #[.int .i64 d.kind, .string d.name, .int .i64 d.num, .slice Ad d.kids.length cd])] 235)).drew).cell? ⟨kb, ko, none⟩ = some (.int .i64 a.kind) /\ ((V.alloc (.cells #[.iface 193 (.string ⟨#[105, 102]⟩), .iface 195 (.agg #[.int .i64 a.kind, .string a.name, .int .i64 a.num, .slice Aa a.kids.length ca]), .iface 193 (.string ⟨#[116, 104, 101, 110]⟩), .iface 195 (.agg #[.int .i64 b.kind, .string b.name, .int .i64 b.num, .slice Ab b.kids.length cb]), .iface 193 (.string ⟨#[101, 108, 115, 101]⟩), .iface 195 (.agg #[.int .i64 d.kind, .string d.name, .int .i64 d.num, .slice Ad d.kids.length cd])] 235)).drew).cell? ⟨kb, ko + 1, none⟩ = some (.string a.name) /\ ((V.alloc (.cells #[.iface 193 (.string ⟨#[105, 102]⟩), .iface 195 (.agg #[.int .i64 a.kind, .string a.name, .int .i64 a.num, .slice Aa a.kids.length ca]), .iface 193 (.string ⟨#[116, 104, 101, 110]⟩), .iface 195 (.agg #[.int .i64 b.kind, .string b.name, .int .i64 b.num, .slice Ab b.kids.length cb]), .iface 193 (.string ⟨#[101, 108, 115, 101]⟩), .iface 195 (.agg #[.int .i64 d.kind, .string d.name, .int .i64 d.num, .slice Ad d.kids.length cd])] 235)).drew).cell? ⟨kb, ko + 2, none⟩ = some (.int .i64 a.num) /\ ((V.alloc (.cells #[.iface 193 (.string ⟨#[105, 102]⟩), .iface 195 (.agg #[.int .i64 a.kind, .string a.name, .int .i64 a.num, .slice Aa a.kids.length ca]), .iface 193 (.string ⟨#[116, 104, 101, 110]⟩), .iface 195 (.agg #[.int .i64 b.kind, .string b.name, .int .i64 b.num, .slice Ab b.kids.length cb]), .iface 193 (.string ⟨#[101, 108, 115, 101]⟩), .iface 195 (.agg #[.int .i64 d.kind, .string d.name, .int .i64 d.num, .slice Ad d.kids.length cd])] 235)).drew).cell? ⟨kb, ko + 3, none⟩ = some (.slice Aa a.kids.length ca) /\ ((V.alloc (.cells #[.iface 193 (.string ⟨#[105, 102]⟩), .iface 195 (.agg #[.int .i64 a.kind, .string a.name, .int .i64 a.num, .slice Aa a.kids.length ca]), .iface 193 (.string ⟨#[116, 104, 101, 110]⟩), .iface 195 (.agg #[.int .i64 b.kind, .string b.name, .int .i64 b.num, .slice Ab b.kids.length cb]), .iface 193 (.string ⟨#[101, 108, 115, 101]⟩), .iface 195 (.agg #[.int .i64 d.kind, .string d.name, .int .i64 d.num, .slice Ad d.kids.length cd])] 235)).drew).cell? ⟨kb, ko + 4, none⟩ = some (.int .i64 b.kind) /\ ((V.alloc (.cells #[.iface 193 (.string ⟨#[105, 102]⟩), .iface 195 (.agg #[.int .i64 a.kind, .string a.name, .int .i64 a.num, .slice Aa a.kids.length ca]), .iface 193 (.string ⟨#[116, 104, 101, 110]⟩), .iface 195 (.agg #[.int .i64 b.kind, .string b.name, .int .i64 b.num, .slice Ab b.kids.length cb]), .iface 193 (.string ⟨#[101, 108, 115, 101]⟩), .iface 195 (.agg #[.int .i64 d.kind, .string d.name, .int .i64 d.num, .slice Ad d.kids.length cd])] 235)).drew).cell? ⟨kb, ko + 4 + 1, none⟩ = some (.string b.name) /\ ((V.alloc (.cells #[.iface 193 (.string ⟨#[105, 102]⟩), .iface 195 (.agg #[.int .i64 a.kind, .string a.name, .int .i64 a.num, .slice Aa a.kids.length ca]), .iface 193 (.string ⟨#[116, 104, 101, 110]⟩), .iface 195 (.agg #[.int .i64 b.kind, .string b.name, .int .i64 b.num, .slice Ab b.kids.length cb]), .iface 193 (.string ⟨#[101, 108, 115, 101]⟩), .iface 195 (.agg #[.int .i64 d.kind, .string d.name, .int .i64 d.num, .slice Ad d.kids.length cd])] 235)).drew).cell? ⟨kb, ko + 4 + 2, none⟩ = some (.int .i64 b.num) /\ ((V.alloc (.cells #[.iface 193 (.string ⟨#[105, 102]⟩), .iface 195 (.agg #[.int .i64 a.kind, .string a.name, .int .i64 a.num, .slice Aa a.kids.length ca]), .iface 193 (.string ⟨#[116, 104, 101, 110]⟩), .iface 195 (.agg #[.int .i64 b.kind, .string b.name, .int .i64 b.num, .slice Ab b.kids.length cb]), .iface 193 (.string ⟨#[101, 108, 115, 101]⟩), .iface 195 (.agg #[.int .i64 d.kind, .string d.name, .int .i64 d.num, .slice Ad d.kids.length cd])] 235)).drew).cell? ⟨kb, ko + 4 + 3, none⟩ = some (.slice Ab b.kids.length cb) /\ ((V.alloc (.cells #[.iface 193 (.string ⟨#[105, 102]⟩), .iface 195 (.agg #[.int .i64 a.kind, .string a.name, .int .i64 a.num, .slice Aa a.kids.length ca]), .iface 193 (.string ⟨#[116, 104, 101, 110]⟩), .iface 195 (.agg #[.int .i64 b.kind, .string b.name, .int .i64 b.num, .slice Ab b.kids.length cb]), .iface 193 (.string ⟨#[101, 108, 115, 101]⟩), .iface 195 (.agg #[.int .i64 d.kind, .string d.name, .int .i64 d.num, .slice Ad d.kids.length cd])] 235)).drew).cell? ⟨kb, ko + 8, none⟩ = some (.int .i64 d.kind) /\ ((V.alloc (.cells #[.iface 193 (.string ⟨#[105, 102]⟩), .iface 195 (.agg #[.int .i64 a.kind, .string a.name, .int .i64 a.num, .slice Aa a.kids.length ca]), .iface 193 (.string ⟨#[116, 104, 101, 110]⟩), .iface 195 (.agg #[.int .i64 b.kind, .string b.name, .int .i64 b.num, .slice Ab b.kids.length cb]), .iface 193 (.string ⟨#[101, 108, 115, 101]⟩), .iface 195 (.agg #[.int .i64 d.kind, .string d.name, .int .i64 d.num, .slice Ad d.kids.length cd])] 235)).drew).cell? ⟨kb, ko + 8 + 1, none⟩ = some (.string d.name) /\ ((V.alloc (.cells #[.iface 193 (.string ⟨#[105, 102]⟩), .iface 195 (.agg #[.int .i64 a.kind, .string a.name, .int .i64 a.num, .slice Aa a.kids.length ca]), .iface 193 (.string ⟨#[116, 104, 101, 110]⟩), .iface 195 (.agg #[.int .i64 b.kind, .string b.name, .int .i64 b.num, .slice Ab b.kids.length cb]), .iface 193 (.string ⟨#[101, 108, 115, 101]⟩), .iface 195 (.agg #[.int .i64 d.kind, .string d.name, .int .i64 d.num, .slice Ad d.kids.length cd])] 235)).drew).cell? ⟨kb, ko + 8 + 2, none⟩ = some (.int .i64 d.num) /\ ((V.alloc (.cells #[.iface 193 (.string ⟨#[105, 102]⟩), .iface 195 (.agg #[.int .i64 a.kind, .string a.name, .int .i64 a.num, .slice Aa a.kids.length ca]), .iface 193 (.string ⟨#[116, 104, 101, 110]⟩), .iface 195 (.agg #[.int .i64 b.kind, .string b.name, .int .i64 b.num, .slice Ab b.kids.length cb]), .iface 193 (.string ⟨#[101, 108, 115, 101]⟩), .iface 195 (.agg #[.int .i64 d.kind, .string d.name, .int .i64 d.num, .slice Ad d.kids.length cd])] 235)).drew).cell? ⟨kb, ko + 8 + 3, none⟩ = some (.slice Ad d.kids.length cd)) := ⟨((qab V (.cells #[.iface 193 (.string ⟨#[105, 102]⟩), .iface 195 (.agg #[.int .i64 a.kind, .string a.name, .int .i64 a.num, .slice Aa a.kids.length ca]), .iface 193 (.string ⟨#[116, 104, 101, 110]⟩), .iface 195 (.agg #[.int .i64 b.kind, .string b.name, .int .i64 b.num, .slice Ab b.kids.length cb]), .iface 193 (.string ⟨#[101, 108, 115, 101]⟩), .iface 195 (.agg #[.int .i64 d.kind, .string d.name, .int .i64 d.num, .slice Ad d.kids.length cd])] 235)).cell (p := ⟨kb, ko, none⟩) hkba).trans ac0, ((qab V (.cells #[.iface 193 (.string ⟨#[105, 102]⟩), .iface 195 (.agg #[.int .i64 a.kind, .string a.name, .int .i64 a.num, .slice Aa a.kids.length ca]), .iface 193 (.string ⟨#[116, 104, 101, 110]⟩), .iface 195 (.agg #[.int .i64 b.kind, .string b.name, .int .i64 b.num, .slice Ab b.kids.length cb]), .iface 193 (.string ⟨#[101, 108, 115, 101]⟩), .iface 195 (.agg #[.int .i64 d.kind, .string d.name, .int .i64 d.num, .slice Ad d.kids.length cd])] 235)).cell (p := ⟨kb, ko + 1, none⟩) hkba).trans ac1, ((qab V (.cells #[.iface 193 (.string ⟨#[105, 102]⟩), .iface 195 (.agg #[.int .i64 a.kind, .string a.name, .int .i64 a.num, .slice Aa a.kids.length ca]), .iface 193 (.string ⟨#[116, 104, 101, 110]⟩), .iface 195 (.agg #[.int .i64 b.kind, .string b.name, .int .i64 b.num, .slice Ab b.kids.length cb]), .iface 193 (.string ⟨#[101, 108, 115, 101]⟩), .iface 195 (.agg #[.int .i64 d.kind, .string d.name, .int .i64 d.num, .slice Ad d.kids.length cd])] 235)).cell (p := ⟨kb, ko + 2, none⟩) hkba).trans ac2, ((qab V (.cells #[.iface 193 (.string ⟨#[105, 102]⟩), .iface 195 (.agg #[.int .i64 a.kind, .string a.name, .int .i64 a.num, .slice Aa a.kids.length ca]), .iface 193 (.string ⟨#[116, 104, 101, 110]⟩), .iface 195 (.agg #[.int .i64 b.kind, .string b.name, .int .i64 b.num, .slice Ab b.kids.length cb]), .iface 193 (.string ⟨#[101, 108, 115, 101]⟩), .iface 195 (.agg #[.int .i64 d.kind, .string d.name, .int .i64 d.num, .slice Ad d.kids.length cd])] 235)).cell (p := ⟨kb, ko + 3, none⟩) hkba).trans ac3, ((qab V (.cells #[.iface 193 (.string ⟨#[105, 102]⟩), .iface 195 (.agg #[.int .i64 a.kind, .string a.name, .int .i64 a.num, .slice Aa a.kids.length ca]), .iface 193 (.string ⟨#[116, 104, 101, 110]⟩), .iface 195 (.agg #[.int .i64 b.kind, .string b.name, .int .i64 b.num, .slice Ab b.kids.length cb]), .iface 193 (.string ⟨#[101, 108, 115, 101]⟩), .iface 195 (.agg #[.int .i64 d.kind, .string d.name, .int .i64 d.num, .slice Ad d.kids.length cd])] 235)).cell (p := ⟨kb, ko + 4, none⟩) hkba).trans bc0, ((qab V (.cells #[.iface 193 (.string ⟨#[105, 102]⟩), .iface 195 (.agg #[.int .i64 a.kind, .string a.name, .int .i64 a.num, .slice Aa a.kids.length ca]), .iface 193 (.string ⟨#[116, 104, 101, 110]⟩), .iface 195 (.agg #[.int .i64 b.kind, .string b.name, .int .i64 b.num, .slice Ab b.kids.length cb]), .iface 193 (.string ⟨#[101, 108, 115, 101]⟩), .iface 195 (.agg #[.int .i64 d.kind, .string d.name, .int .i64 d.num, .slice Ad d.kids.length cd])] 235)).cell (p := ⟨kb, ko + 4 + 1, none⟩) hkba).trans bc1, ((qab V (.cells #[.iface 193 (.string ⟨#[105, 102]⟩), .iface 195 (.agg #[.int .i64 a.kind, .string a.name, .int .i64 a.num, .slice Aa a.kids.length ca]), .iface 193 (.string ⟨#[116, 104, 101, 110]⟩), .iface 195 (.agg #[.int .i64 b.kind, .string b.name, .int .i64 b.num, .slice Ab b.kids.length cb]), .iface 193 (.string ⟨#[101, 108, 115, 101]⟩), .iface 195 (.agg #[.int .i64 d.kind, .string d.name, .int .i64 d.num, .slice Ad d.kids.length cd])] 235)).cell (p := ⟨kb, ko + 4 + 2, none⟩) hkba).trans bc2, ((qab V (.cells #[.iface 193 (.string ⟨#[105, 102]⟩), .iface 195 (.agg #[.int .i64 a.kind, .string a.name, .int .i64 a.num, .slice Aa a.kids.length ca]), .iface 193 (.string ⟨#[116, 104, 101, 110]⟩), .iface 195 (.agg #[.int .i64 b.kind, .string b.name, .int .i64 b.num, .slice Ab b.kids.length cb]), .iface 193 (.string ⟨#[101, 108, 115, 101]⟩), .iface 195 (.agg #[.int .i64 d.kind, .string d.name, .int .i64 d.num, .slice Ad d.kids.length cd])] 235)).cell (p := ⟨kb, ko + 4 + 3, none⟩) hkba).trans bc3, ((qab V (.cells #[.iface 193 (.string ⟨#[105, 102]⟩), .iface 195 (.agg #[.int .i64 a.kind, .string a.name, .int .i64 a.num, .slice Aa a.kids.length ca]), .iface 193 (.string ⟨#[116, 104, 101, 110]⟩), .iface 195 (.agg #[.int .i64 b.kind, .string b.name, .int .i64 b.num, .slice Ab b.kids.length cb]), .iface 193 (.string ⟨#[101, 108, 115, 101]⟩), .iface 195 (.agg #[.int .i64 d.kind, .string d.name, .int .i64 d.num, .slice Ad d.kids.length cd])] 235)).cell (p := ⟨kb, ko + 8, none⟩) hkba).trans dc0, ((qab V (.cells #[.iface 193 (.string ⟨#[105, 102]⟩), .iface 195 (.agg #[.int .i64 a.kind, .string a.name, .int .i64 a.num, .slice Aa a.kids.length ca]), .iface 193 (.string ⟨#[116, 104, 101, 110]⟩), .iface 195 (.agg #[.int .i64 b.kind, .string b.name, .int .i64 b.num, .slice Ab b.kids.length cb]), .iface 193 (.string ⟨#[101, 108, 115, 101]⟩), .iface 195 (.agg #[.int .i64 d.kind, .string d.name, .int .i64 d.num, .slice Ad d.kids.length cd])] 235)).cell (p := ⟨kb, ko + 8 + 1, none⟩) hkba).trans dc1, ((qab V (.cells #[.iface 193 (.string ⟨#[105, 102]⟩), .iface 195 (.agg #[.int .i64 a.kind, .string a.name, .int .i64 a.num, .slice Aa a.kids.length ca]), .iface 193 (.string ⟨#[116, 104, 101, 110]⟩), .iface 195 (.agg #[.int .i64 b.kind, .string b.name, .int .i64 b.num, .slice Ab b.kids.length cb]), .iface 193 (.string ⟨#[101, 108, 115, 101]⟩), .iface 195 (.agg #[.int .i64 d.kind, .string d.name, .int .i64 d.num, .slice Ad d.kids.length cd])] 235)).cell (p := ⟨kb, ko + 8 + 2, none⟩) hkba).trans dc2, ((qab V (.cells #[.iface 193 (.string ⟨#[105, 102]⟩), .iface 195 (.agg #[.int .i64 a.kind, .string a.name, .int .i64 a.num, .slice Aa a.kids.length ca]), .iface 193 (.string ⟨#[116, 104, 101, 110]⟩), .iface 195 (.agg #[.int .i64 b.kind, .string b.name, .int .i64 b.num, .slice Ab b.kids.length cb]), .iface 193 (.string ⟨#[101, 108, 115, 101]⟩), .iface 195 (.agg #[.int .i64 d.kind, .string d.name, .int .i64 d.num, .slice Ad d.kids.length cd])] 235)).cell (p := ⟨kb, ko + 8 + 3, none⟩) hkba).trans dc3⟩
 have hSk : Hid (∀ v1 w1, qam base ts (([.inl (kTok [105, 102]), .inr (a, Aa, ca), .inl (kTok [116, 104, 101, 110]), .inr (b, Ab, cb), .inl (kTok [101, 108, 115, 101]), .inr (d, Ad, cd)] : List Pt).flatMap partT) V.drew v v1 w1 -> (w1).cell? ⟨kb, ko, none⟩ = some (.int .i64 a.kind) /\ (w1).cell? ⟨kb, ko + 1, none⟩ = some (.string a.name) /\ (w1).cell? ⟨kb, ko + 2, none⟩ = some (.int .i64 a.num) /\ (w1).cell? ⟨kb, ko + 3, none⟩ = some (.slice Aa a.kids.length ca) /\ (w1).cell? ⟨kb, ko + 4, none⟩ = some (.int .i64 b.kind) /\ (w1).cell? ⟨kb, ko + 4 + 1, none⟩ = some (.string b.name) /\ (w1).cell? ⟨kb, ko + 4 + 2, none⟩ = some (.int .i64 b.num) /\ (w1).cell? ⟨kb, ko + 4 + 3, none⟩ = some (.slice Ab b.kids.length cb) /\ (w1).cell? ⟨kb, ko + 8, none⟩ = some (.int .i64 d.kind) /\ (w1).cell? ⟨kb, ko + 8 + 1, none⟩ = some (.string d.name) /\ (w1).cell? ⟨kb, ko + 8 + 2, none⟩ = some (.int .i64 d.num) /\ (w1).cell? ⟨kb, ko + 8 + 3, none⟩ = some (.slice Ad d.kids.length cd)) := fun v1 w1 h => ⟨(h.2.cell (b := kb) (o := ko) hokb).trans ac0, (h.2.cell (b := kb) (o := ko + 1) hokb).trans ac1, (h.2.cell (b := kb) (o := ko + 2) hokb).trans ac2, (h.2.cell (b := kb) (o := ko + 3) hokb).trans ac3, (h.2.cell (b := kb) (o := ko + 4) hokb).trans bc0, (h.2.cell (b := kb) (o := ko + 4 + 1) hokb).trans bc1, (h.2.cell (b := kb) (o := ko + 4 + 2) hokb).trans bc2, (h.2.cell (b := kb) (o := ko + 4 + 3) hokb).trans bc3, (h.2.cell (b := kb) (o := ko + 8) hokb).trans dc0, (h.2.cell (b := kb) (o := ko + 8 + 1) hokb).trans dc1, (h.2.cell (b := kb) (o := ko + 8 + 2) hokb).trans dc2, (h.2.cell (b := kb) (o := ko + 8 + 3) hokb).trans dc3⟩
 clear kl0 hbV hbW hgW hEW hOW hTW hT hown hE hok hkk htt hlen hl hva hvb hvd
 replace hbx := hid hbx
 replace hV := hid hV
 replace hVs := hid hVs
 go_enter Tryz.func82, Tryz.ntmps82
 go_wp2_with fail
 try rw [hV.out]
 go_region_held3 (fun w' => (w').cell? ⟨kb, ko, none⟩ = some (.int .i64 a.kind) /\ (w').cell? ⟨kb, ko + 1, none⟩ = some (.string a.name) /\ (w').cell? ⟨kb, ko + 2, none⟩ = some (.int .i64 a.num) /\ (w').cell? ⟨kb, ko + 3, none⟩ = some (.slice Aa a.kids.length ca) /\ (w').cell? ⟨kb, ko + 4, none⟩ = some (.int .i64 b.kind) /\ (w').cell? ⟨kb, ko + 4 + 1, none⟩ = some (.string b.name) /\ (w').cell? ⟨kb, ko + 4 + 2, none⟩ = some (.int .i64 b.num) /\ (w').cell? ⟨kb, ko + 4 + 3, none⟩ = some (.slice Ab b.kids.length cb) /\ (w').cell? ⟨kb, ko + 8, none⟩ = some (.int .i64 d.kind) /\ (w').cell? ⟨kb, ko + 8 + 1, none⟩ = some (.string d.name) /\ (w').cell? ⟨kb, ko + 8 + 2, none⟩ = some (.int .i64 d.num) /\ (w').cell? ⟨kb, ko + 8 + 3, none⟩ = some (.slice Ad d.kids.length cd)) (first | exact hS0 | exact hSa.out | exact hS1.out) (first | (go_at_call 123; refine kl.out.mono ?_; rintro e w1 ⟨v1, rfl, hp⟩; have hS1 := hid (hSk.out _ _ hp); replace hp := hid (hend.out _ _ hp); clear kl))
 all_goals go_wp2
 all_goals go_ret
 all_goals exact ⟨_, rfl, hp.out⟩
theorem qsg  (a : Go.Tm.T) (b : Go.Tm.T) (Ha : qaB a) (Hb : qaB b) : qbk (.node 11 ⟨#[]⟩ 0 [a, b]) := fun base v ts A c w h8 hbase hE hown hT hl => by
 have hbV : Below w.heap.size w (w.alloc (.cells #[.int .i64 11, .string ⟨#[]⟩, .int .i64 0, .slice A 2 c] 26)) := qab _ _
 have hbx : (w.alloc (.cells #[.int .i64 11, .string ⟨#[]⟩, .int .i64 0, .slice A 2 c] 26)).heap[w.heap.size]? = some (.cells #[.int .i64 11, .string ⟨#[]⟩, .int .i64 0, .slice A 2 c] 26 (0, 0)) := World.alloc_heap_new _ _
 have hVs : (w.alloc (.cells #[.int .i64 11, .string ⟨#[]⟩, .int .i64 0, .slice A 2 c] 26)).heap.size = w.heap.size + 1 := by simp
 show Calls Tryz.prog 82 #[v, .agg #[.int .i64 11, .string ⟨#[]⟩, .int .i64 0, .slice A 2 c]] w _
 obtain ⟨V, hV⟩ : ∃ V, w.alloc (.cells #[.int .i64 11, .string ⟨#[]⟩, .int .i64 0, .slice A 2 c] 26) = V := ⟨_, rfl⟩
 rw [hV] at hbV hbx hVs
 have hbW : Below w.heap.size w V.drew := hbV.drew
 have hgW : Gr w V.drew v v := Gr.of_below hbW
 have hEW := hE.below (Nat.le_refl _) (hbW.mono hE.size)
 have hOW := qaM hown hbW
 have hTW := hgW.tm hT
 have hbs : base <= (V.drew).heap.size := Nat.le_trans hbase hbW.size
 have i0 := qaa V w.heap.size 0 _ _ _ hbx
 have i1 := qaa V w.heap.size 1 _ _ _ hbx
 have i2 := qaa V w.heap.size 2 _ _ _ hbx
 have i3 := qaa V w.heap.size 3 _ _ _ hbx
 have hlv : w.heap.size < V.heap.size := by omega
 have hob : Out V.drew v w.heap.size := ⟨hlv, fun e => by have := qcx hown _ e; omega⟩
 obtain ⟨kb, ko, rfl, hrow⟩ := hTW.row.resolve_left (fun e => by cases e)
 obtain ⟨Aa, ca, hha, hva⟩ := qaG (hrow.get 0 (by show _ < 2; decide))
 replace hva : TmV V.drew (Out V.drew v) a Aa ca := hva
 have ac0 : V.cell? ⟨kb, ko, none⟩ = some (.int .i64 a.kind) := hha.kind
 have ac1 : V.cell? ⟨kb, ko + 1, none⟩ = some (.string a.name) := hha.name
 have ac2 : V.cell? ⟨kb, ko + 2, none⟩ = some (.int .i64 a.num) := hha.num
 have ac3 : V.cell? ⟨kb, ko + 3, none⟩ = some (.slice Aa a.kids.length ca) := hha.kids
 have hkba : kb < V.heap.size := hha.at_.1
 have hokb : Out V.drew v kb := hha.at_
 clear hha
 obtain ⟨Ab, cb, hhb, hvb⟩ := qaG (hrow.get 1 (by show _ < 2; decide))
 replace hvb : TmV V.drew (Out V.drew v) b Ab cb := hvb
 have bc0 : V.cell? ⟨kb, ko + 4, none⟩ = some (.int .i64 b.kind) := hhb.kind
 have bc1 : V.cell? ⟨kb, ko + 4 + 1, none⟩ = some (.string b.name) := hhb.name
 have bc2 : V.cell? ⟨kb, ko + 4 + 2, none⟩ = some (.int .i64 b.num) := hhb.num
 have bc3 : V.cell? ⟨kb, ko + 4 + 3, none⟩ = some (.slice Ab b.kids.length cb) := hhb.kids
 clear hhb
 clear hrow
 have hlen : ts.length + (([.inr (a, Aa, ca), .inl (mTok [58, 61]), .inr (b, Ab, cb)] : List Pt).flatMap partT).length <= 1099511627776 := by rw [qdB] at hl; simpa [partT] using hl
 have hok : ∀ p ∈ ([.inr (a, Aa, ca), .inl (mTok [58, 61]), .inr (b, Ab, cb)] : List Pt), qcm p := by
   intro p hp
   simp only [List.mem_cons, List.not_mem_nil, or_false] at hp
   rcases hp with rfl | rfl | rfl
   . exact trivial
   . exact .inl ⟨.inr (.inr rfl), rfl⟩
   . exact trivial
 have hkk : ∀ u, .inr u ∈ ([.inr (a, Aa, ca), .inl (mTok [58, 61]), .inr (b, Ab, cb)] : List Pt) -> qaB u.1 := by
   intro u hu
   simp at hu
   rcases hu with rfl | rfl
   . exact Ha
   . exact Hb
 have htt : ∀ u, .inr u ∈ ([.inr (a, Aa, ca), .inl (mTok [58, 61]), .inr (b, Ab, cb)] : List Pt) -> TmV V.drew (Out V.drew v) u.1 u.2.1 u.2.2 := by
   intro u hu
   simp at hu
   rcases hu with rfl | rfl
   . exact hva
   . exact hvb
 have kl0 := qbP [.inr (a, Aa, ca), .inl (mTok [58, 61]), .inr (b, Ab, cb)] hok hkk base v ts 3 V.drew 235 h8 hbs hEW hOW htt hlen (by show 3 <= _; decide)
 have kl : Calls Tryz.prog 123 #[v, .slice (some ⟨V.heap.size, 0, none⟩) 3 3] (V.drew.alloc (.cells #[.iface 195 (.agg #[.int .i64 a.kind, .string a.name, .int .i64 a.num, .slice Aa a.kids.length ca]), .iface 194 (.string ⟨#[58, 61]⟩), .iface 195 (.agg #[.int .i64 b.kind, .string b.name, .int .i64 b.num, .slice Ab b.kids.length cb])] 235)) fun e w' => ∃ v', e = .returned v' /\ qam base ts (([.inr (a, Aa, ca), .inl (mTok [58, 61]), .inr (b, Ab, cb)] : List Pt).flatMap partT) V.drew v v' w' := kl0
 replace kl := hid kl
 have hend : Hid (∀ v' w', qam base ts (([.inr (a, Aa, ca), .inl (mTok [58, 61]), .inr (b, Ab, cb)] : List Pt).flatMap partT) V.drew v v' w' -> qam base ts (toksT (.node 11 ⟨#[]⟩ 0 [a, b])) w v v' w') := fun v' w' h => by
   have e : toksT (.node 11 ⟨#[]⟩ 0 [a, b]) = ([.inr (a, Aa, ca), .inl (mTok [58, 61]), .inr (b, Ab, cb)] : List Pt).flatMap partT := by rw [qdB]; first | rfl | simp [partT]
   rw [e]; exact h.of hgW
 have hS0 : (V).cell? ⟨kb, ko, none⟩ = some (.int .i64 a.kind) /\ (V).cell? ⟨kb, ko + 1, none⟩ = some (.string a.name) /\ (V).cell? ⟨kb, ko + 2, none⟩ = some (.int .i64 a.num) /\ (V).cell? ⟨kb, ko + 3, none⟩ = some (.slice Aa a.kids.length ca) /\ (V).cell? ⟨kb, ko + 4, none⟩ = some (.int .i64 b.kind) /\ (V).cell? ⟨kb, ko + 4 + 1, none⟩ = some (.string b.name) /\ (V).cell? ⟨kb, ko + 4 + 2, none⟩ = some (.int .i64 b.num) /\ (V).cell? ⟨kb, ko + 4 + 3, none⟩ = some (.slice Ab b.kids.length cb) := ⟨ac0, ac1, ac2, ac3, bc0, bc1, bc2, bc3⟩
 have hSa : Hid (((V.alloc (.cells #[.iface 195 (.agg #[.int .i64 a.kind, .string a.name, .int .i64 a.num, .slice Aa a.kids.length ca]), .iface 194 (.string ⟨#[58, 61]⟩), .iface 195 (.agg #[.int .i64 b.kind, .string b.name, .int .i64 b.num, .slice Ab b.kids.length cb])] 235)).drew).cell? ⟨kb, ko, none⟩ = some (.int .i64 a.kind) /\ ((V.alloc (.cells #[.iface 195 (.agg #[.int .i64 a.kind, .string a.name, .int .i64 a.num, .slice Aa a.kids.length ca]), .iface 194 (.string ⟨#[58, 61]⟩), .iface 195 (.agg #[.int .i64 b.kind, .string b.name, .int .i64 b.num, .slice Ab b.kids.length cb])] 235)).drew).cell? ⟨kb, ko + 1, none⟩ = some (.string a.name) /\ ((V.alloc (.cells #[.iface 195 (.agg #[.int .i64 a.kind, .string a.name, .int .i64 a.num, .slice Aa a.kids.length ca]), .iface 194 (.string ⟨#[58, 61]⟩), .iface 195 (.agg #[.int .i64 b.kind, .string b.name, .int .i64 b.num, .slice Ab b.kids.length cb])] 235)).drew).cell? ⟨kb, ko + 2, none⟩ = some (.int .i64 a.num) /\ ((V.alloc (.cells #[.iface 195 (.agg #[.int .i64 a.kind, .string a.name, .int .i64 a.num, .slice Aa a.kids.length ca]), .iface 194 (.string ⟨#[58, 61]⟩), .iface 195 (.agg #[.int .i64 b.kind, .string b.name, .int .i64 b.num, .slice Ab b.kids.length cb])] 235)).drew).cell? ⟨kb, ko + 3, none⟩ = some (.slice Aa a.kids.length ca) /\ ((V.alloc (.cells #[.iface 195 (.agg #[.int .i64 a.kind, .string a.name, .int .i64 a.num, .slice Aa a.kids.length ca]), .iface 194 (.string ⟨#[58, 61]⟩), .iface 195 (.agg #[.int .i64 b.kind, .string b.name, .int .i64 b.num, .slice Ab b.kids.length cb])] 235)).drew).cell? ⟨kb, ko + 4, none⟩ = some (.int .i64 b.kind) /\ ((V.alloc (.cells #[.iface 195 (.agg #[.int .i64 a.kind, .string a.name, .int .i64 a.num, .slice Aa a.kids.length ca]), .iface 194 (.string ⟨#[58, 61]⟩), .iface 195 (.agg #[.int .i64 b.kind, .string b.name, .int .i64 b.num, .slice Ab b.kids.length cb])] 235)).drew).cell? ⟨kb, ko + 4 + 1, none⟩ = some (.string b.name) /\ ((V.alloc (.cells #[.iface 195 (.agg #[.int .i64 a.kind, .string a.name, .int .i64 a.num, .slice Aa a.kids.length ca]), .iface 194 (.string ⟨#[58, 61]⟩), .iface 195 (.agg #[.int .i64 b.kind, .string b.name, .int .i64 b.num, .slice Ab b.kids.length cb])] 235)).drew).cell? ⟨kb, ko + 4 + 2, none⟩ = some (.int .i64 b.num) /\ ((V.alloc (.cells #[.iface 195 (.agg #[.int .i64 a.kind, .string a.name, .int .i64 a.num, .slice Aa a.kids.length ca]), .iface 194 (.string ⟨#[58, 61]⟩), .iface 195 (.agg #[.int .i64 b.kind, .string b.name, .int .i64 b.num, .slice Ab b.kids.length cb])] 235)).drew).cell? ⟨kb, ko + 4 + 3, none⟩ = some (.slice Ab b.kids.length cb)) := ⟨((qab V (.cells #[.iface 195 (.agg #[.int .i64 a.kind, .string a.name, .int .i64 a.num, .slice Aa a.kids.length ca]), .iface 194 (.string ⟨#[58, 61]⟩), .iface 195 (.agg #[.int .i64 b.kind, .string b.name, .int .i64 b.num, .slice Ab b.kids.length cb])] 235)).cell (p := ⟨kb, ko, none⟩) hkba).trans ac0, ((qab V (.cells #[.iface 195 (.agg #[.int .i64 a.kind, .string a.name, .int .i64 a.num, .slice Aa a.kids.length ca]), .iface 194 (.string ⟨#[58, 61]⟩), .iface 195 (.agg #[.int .i64 b.kind, .string b.name, .int .i64 b.num, .slice Ab b.kids.length cb])] 235)).cell (p := ⟨kb, ko + 1, none⟩) hkba).trans ac1, ((qab V (.cells #[.iface 195 (.agg #[.int .i64 a.kind, .string a.name, .int .i64 a.num, .slice Aa a.kids.length ca]), .iface 194 (.string ⟨#[58, 61]⟩), .iface 195 (.agg #[.int .i64 b.kind, .string b.name, .int .i64 b.num, .slice Ab b.kids.length cb])] 235)).cell (p := ⟨kb, ko + 2, none⟩) hkba).trans ac2, ((qab V (.cells #[.iface 195 (.agg #[.int .i64 a.kind, .string a.name, .int .i64 a.num, .slice Aa a.kids.length ca]), .iface 194 (.string ⟨#[58, 61]⟩), .iface 195 (.agg #[.int .i64 b.kind, .string b.name, .int .i64 b.num, .slice Ab b.kids.length cb])] 235)).cell (p := ⟨kb, ko + 3, none⟩) hkba).trans ac3, ((qab V (.cells #[.iface 195 (.agg #[.int .i64 a.kind, .string a.name, .int .i64 a.num, .slice Aa a.kids.length ca]), .iface 194 (.string ⟨#[58, 61]⟩), .iface 195 (.agg #[.int .i64 b.kind, .string b.name, .int .i64 b.num, .slice Ab b.kids.length cb])] 235)).cell (p := ⟨kb, ko + 4, none⟩) hkba).trans bc0, ((qab V (.cells #[.iface 195 (.agg #[.int .i64 a.kind, .string a.name, .int .i64 a.num, .slice Aa a.kids.length ca]), .iface 194 (.string ⟨#[58, 61]⟩), .iface 195 (.agg #[.int .i64 b.kind, .string b.name, .int .i64 b.num, .slice Ab b.kids.length cb])] 235)).cell (p := ⟨kb, ko + 4 + 1, none⟩) hkba).trans bc1, ((qab V (.cells #[.iface 195 (.agg #[.int .i64 a.kind, .string a.name, .int .i64 a.num, .slice Aa a.kids.length ca]), .iface 194 (.string ⟨#[58, 61]⟩), .iface 195 (.agg #[.int .i64 b.kind, .string b.name, .int .i64 b.num, .slice Ab b.kids.length cb])] 235)).cell (p := ⟨kb, ko + 4 + 2, none⟩) hkba).trans bc2, ((qab V (.cells #[.iface 195 (.agg #[.int .i64 a.kind, .string a.name, .int .i64 a.num, .slice Aa a.kids.length ca]), .iface 194 (.string ⟨#[58, 61]⟩), .iface 195 (.agg #[.int .i64 b.kind, .string b.name, .int .i64 b.num, .slice Ab b.kids.length cb])] 235)).cell (p := ⟨kb, ko + 4 + 3, none⟩) hkba).trans bc3⟩
 have hSk : Hid (∀ v1 w1, qam base ts (([.inr (a, Aa, ca), .inl (mTok [58, 61]), .inr (b, Ab, cb)] : List Pt).flatMap partT) V.drew v v1 w1 -> (w1).cell? ⟨kb, ko, none⟩ = some (.int .i64 a.kind) /\ (w1).cell? ⟨kb, ko + 1, none⟩ = some (.string a.name) /\ (w1).cell? ⟨kb, ko + 2, none⟩ = some (.int .i64 a.num) /\ (w1).cell? ⟨kb, ko + 3, none⟩ = some (.slice Aa a.kids.length ca) /\ (w1).cell? ⟨kb, ko + 4, none⟩ = some (.int .i64 b.kind) /\ (w1).cell? ⟨kb, ko + 4 + 1, none⟩ = some (.string b.name) /\ (w1).cell? ⟨kb, ko + 4 + 2, none⟩ = some (.int .i64 b.num) /\ (w1).cell? ⟨kb, ko + 4 + 3, none⟩ = some (.slice Ab b.kids.length cb)) := fun v1 w1 h => ⟨(h.2.cell (b := kb) (o := ko) hokb).trans ac0, (h.2.cell (b := kb) (o := ko + 1) hokb).trans ac1, (h.2.cell (b := kb) (o := ko + 2) hokb).trans ac2, (h.2.cell (b := kb) (o := ko + 3) hokb).trans ac3, (h.2.cell (b := kb) (o := ko + 4) hokb).trans bc0, (h.2.cell (b := kb) (o := ko + 4 + 1) hokb).trans bc1, (h.2.cell (b := kb) (o := ko + 4 + 2) hokb).trans bc2, (h.2.cell (b := kb) (o := ko + 4 + 3) hokb).trans bc3⟩
 clear kl0 hbV hbW hgW hEW hOW hTW hT hown hE hok hkk htt hlen hl hva hvb
 replace hbx := hid hbx
 replace hV := hid hV
 replace hVs := hid hVs
 go_enter Tryz.func82, Tryz.ntmps82
 go_wp2_with fail
 try rw [hV.out]
 go_region_held3 (fun w' => (w').cell? ⟨kb, ko, none⟩ = some (.int .i64 a.kind) /\ (w').cell? ⟨kb, ko + 1, none⟩ = some (.string a.name) /\ (w').cell? ⟨kb, ko + 2, none⟩ = some (.int .i64 a.num) /\ (w').cell? ⟨kb, ko + 3, none⟩ = some (.slice Aa a.kids.length ca) /\ (w').cell? ⟨kb, ko + 4, none⟩ = some (.int .i64 b.kind) /\ (w').cell? ⟨kb, ko + 4 + 1, none⟩ = some (.string b.name) /\ (w').cell? ⟨kb, ko + 4 + 2, none⟩ = some (.int .i64 b.num) /\ (w').cell? ⟨kb, ko + 4 + 3, none⟩ = some (.slice Ab b.kids.length cb)) (first | exact hS0 | exact hSa.out | exact hS1.out) (first | (go_at_call 123; refine kl.out.mono ?_; rintro e w1 ⟨v1, rfl, hp⟩; have hS1 := hid (hSk.out _ _ hp); replace hp := hid (hend.out _ _ hp); clear kl))
 all_goals go_wp2
 all_goals go_ret
 all_goals exact ⟨_, rfl, hp.out⟩
theorem qsh (s : ByteArray)  (a : Go.Tm.T) (b : Go.Tm.T) (Ha : qaB a) (Hb : qaB b) : qbk (.node 12 s 0 [a, b]) := fun base v ts A c w h8 hbase hE hown hT hl => by
 have hbV : Below w.heap.size w (w.alloc (.cells #[.int .i64 12, .string s, .int .i64 0, .slice A 2 c] 26)) := qab _ _
 have hbx : (w.alloc (.cells #[.int .i64 12, .string s, .int .i64 0, .slice A 2 c] 26)).heap[w.heap.size]? = some (.cells #[.int .i64 12, .string s, .int .i64 0, .slice A 2 c] 26 (0, 0)) := World.alloc_heap_new _ _
 have hVs : (w.alloc (.cells #[.int .i64 12, .string s, .int .i64 0, .slice A 2 c] 26)).heap.size = w.heap.size + 1 := by simp
 show Calls Tryz.prog 82 #[v, .agg #[.int .i64 12, .string s, .int .i64 0, .slice A 2 c]] w _
 obtain ⟨V, hV⟩ : ∃ V, w.alloc (.cells #[.int .i64 12, .string s, .int .i64 0, .slice A 2 c] 26) = V := ⟨_, rfl⟩
 rw [hV] at hbV hbx hVs
 have hbW : Below w.heap.size w V.drew := hbV.drew
 have hgW : Gr w V.drew v v := Gr.of_below hbW
 have hEW := hE.below (Nat.le_refl _) (hbW.mono hE.size)
 have hOW := qaM hown hbW
 have hTW := hgW.tm hT
 have hbs : base <= (V.drew).heap.size := Nat.le_trans hbase hbW.size
 have i0 := qaa V w.heap.size 0 _ _ _ hbx
 have i1 := qaa V w.heap.size 1 _ _ _ hbx
 have i2 := qaa V w.heap.size 2 _ _ _ hbx
 have i3 := qaa V w.heap.size 3 _ _ _ hbx
 have hlv : w.heap.size < V.heap.size := by omega
 have hob : Out V.drew v w.heap.size := ⟨hlv, fun e => by have := qcx hown _ e; omega⟩
 obtain ⟨kb, ko, rfl, hrow⟩ := hTW.row.resolve_left (fun e => by cases e)
 obtain ⟨Aa, ca, hha, hva⟩ := qaG (hrow.get 0 (by show _ < 2; decide))
 replace hva : TmV V.drew (Out V.drew v) a Aa ca := hva
 have ac0 : V.cell? ⟨kb, ko, none⟩ = some (.int .i64 a.kind) := hha.kind
 have ac1 : V.cell? ⟨kb, ko + 1, none⟩ = some (.string a.name) := hha.name
 have ac2 : V.cell? ⟨kb, ko + 2, none⟩ = some (.int .i64 a.num) := hha.num
 have ac3 : V.cell? ⟨kb, ko + 3, none⟩ = some (.slice Aa a.kids.length ca) := hha.kids
 have hkba : kb < V.heap.size := hha.at_.1
 have hokb : Out V.drew v kb := hha.at_
 clear hha
 obtain ⟨Ab, cb, hhb, hvb⟩ := qaG (hrow.get 1 (by show _ < 2; decide))
 replace hvb : TmV V.drew (Out V.drew v) b Ab cb := hvb
 have bc0 : V.cell? ⟨kb, ko + 4, none⟩ = some (.int .i64 b.kind) := hhb.kind
 have bc1 : V.cell? ⟨kb, ko + 4 + 1, none⟩ = some (.string b.name) := hhb.name
 have bc2 : V.cell? ⟨kb, ko + 4 + 2, none⟩ = some (.int .i64 b.num) := hhb.num
 have bc3 : V.cell? ⟨kb, ko + 4 + 3, none⟩ = some (.slice Ab b.kids.length cb) := hhb.kids
 clear hhb
 clear hrow
 have hlen : ts.length + (([.inr (a, Aa, ca), .inl (mTok s.data.toList), .inr (b, Ab, cb)] : List Pt).flatMap partT).length <= 1099511627776 := by rw [qdC] at hl; simpa [partT] using hl
 have hok : ∀ p ∈ ([.inr (a, Aa, ca), .inl (mTok s.data.toList), .inr (b, Ab, cb)] : List Pt), qcm p := by
   intro p hp
   simp only [List.mem_cons, List.not_mem_nil, or_false] at hp
   rcases hp with rfl | rfl | rfl
   . exact trivial
   . exact .inl ⟨.inr (.inr rfl), rfl⟩
   . exact trivial
 have hkk : ∀ u, .inr u ∈ ([.inr (a, Aa, ca), .inl (mTok s.data.toList), .inr (b, Ab, cb)] : List Pt) -> qaB u.1 := by
   intro u hu
   simp at hu
   rcases hu with rfl | rfl
   . exact Ha
   . exact Hb
 have htt : ∀ u, .inr u ∈ ([.inr (a, Aa, ca), .inl (mTok s.data.toList), .inr (b, Ab, cb)] : List Pt) -> TmV V.drew (Out V.drew v) u.1 u.2.1 u.2.2 := by
   intro u hu
   simp at hu
   rcases hu with rfl | rfl
   . exact hva
   . exact hvb
 have kl0 := qbP [.inr (a, Aa, ca), .inl (mTok s.data.toList), .inr (b, Ab, cb)] hok hkk base v ts 3 V.drew 235 h8 hbs hEW hOW htt hlen (by show 3 <= _; decide)
 have kl : Calls Tryz.prog 123 #[v, .slice (some ⟨V.heap.size, 0, none⟩) 3 3] (V.drew.alloc (.cells #[.iface 195 (.agg #[.int .i64 a.kind, .string a.name, .int .i64 a.num, .slice Aa a.kids.length ca]), .iface 194 (.string s), .iface 195 (.agg #[.int .i64 b.kind, .string b.name, .int .i64 b.num, .slice Ab b.kids.length cb])] 235)) fun e w' => ∃ v', e = .returned v' /\ qam base ts (([.inr (a, Aa, ca), .inl (mTok s.data.toList), .inr (b, Ab, cb)] : List Pt).flatMap partT) V.drew v v' w' := kl0
 replace kl := hid kl
 have hend : Hid (∀ v' w', qam base ts (([.inr (a, Aa, ca), .inl (mTok s.data.toList), .inr (b, Ab, cb)] : List Pt).flatMap partT) V.drew v v' w' -> qam base ts (toksT (.node 12 s 0 [a, b])) w v v' w') := fun v' w' h => by
   have e : toksT (.node 12 s 0 [a, b]) = ([.inr (a, Aa, ca), .inl (mTok s.data.toList), .inr (b, Ab, cb)] : List Pt).flatMap partT := by rw [qdC]; first | rfl | simp [partT]
   rw [e]; exact h.of hgW
 have hS0 : (V).cell? ⟨w.heap.size, 1, none⟩ = some (.string s) /\ (V).cell? ⟨kb, ko, none⟩ = some (.int .i64 a.kind) /\ (V).cell? ⟨kb, ko + 1, none⟩ = some (.string a.name) /\ (V).cell? ⟨kb, ko + 2, none⟩ = some (.int .i64 a.num) /\ (V).cell? ⟨kb, ko + 3, none⟩ = some (.slice Aa a.kids.length ca) /\ (V).cell? ⟨kb, ko + 4, none⟩ = some (.int .i64 b.kind) /\ (V).cell? ⟨kb, ko + 4 + 1, none⟩ = some (.string b.name) /\ (V).cell? ⟨kb, ko + 4 + 2, none⟩ = some (.int .i64 b.num) /\ (V).cell? ⟨kb, ko + 4 + 3, none⟩ = some (.slice Ab b.kids.length cb) := ⟨i1, ac0, ac1, ac2, ac3, bc0, bc1, bc2, bc3⟩
 have hSa : Hid (((V.alloc (.cells #[.iface 195 (.agg #[.int .i64 a.kind, .string a.name, .int .i64 a.num, .slice Aa a.kids.length ca]), .iface 194 (.string s), .iface 195 (.agg #[.int .i64 b.kind, .string b.name, .int .i64 b.num, .slice Ab b.kids.length cb])] 235)).drew).cell? ⟨w.heap.size, 1, none⟩ = some (.string s) /\ ((V.alloc (.cells #[.iface 195 (.agg #[.int .i64 a.kind, .string a.name, .int .i64 a.num, .slice Aa a.kids.length ca]), .iface 194 (.string s), .iface 195 (.agg #[.int .i64 b.kind, .string b.name, .int .i64 b.num, .slice Ab b.kids.length cb])] 235)).drew).cell? ⟨kb, ko, none⟩ = some (.int .i64 a.kind) /\ ((V.alloc (.cells #[.iface 195 (.agg #[.int .i64 a.kind, .string a.name, .int .i64 a.num, .slice Aa a.kids.length ca]), .iface 194 (.string s), .iface 195 (.agg #[.int .i64 b.kind, .string b.name, .int .i64 b.num, .slice Ab b.kids.length cb])] 235)).drew).cell? ⟨kb, ko + 1, none⟩ = some (.string a.name) /\ ((V.alloc (.cells #[.iface 195 (.agg #[.int .i64 a.kind, .string a.name, .int .i64 a.num, .slice Aa a.kids.length ca]), .iface 194 (.string s), .iface 195 (.agg #[.int .i64 b.kind, .string b.name, .int .i64 b.num, .slice Ab b.kids.length cb])] 235)).drew).cell? ⟨kb, ko + 2, none⟩ = some (.int .i64 a.num) /\ ((V.alloc (.cells #[.iface 195 (.agg #[.int .i64 a.kind, .string a.name, .int .i64 a.num, .slice Aa a.kids.length ca]), .iface 194 (.string s), .iface 195 (.agg #[.int .i64 b.kind, .string b.name, .int .i64 b.num, .slice Ab b.kids.length cb])] 235)).drew).cell? ⟨kb, ko + 3, none⟩ = some (.slice Aa a.kids.length ca) /\ ((V.alloc (.cells #[.iface 195 (.agg #[.int .i64 a.kind, .string a.name, .int .i64 a.num, .slice Aa a.kids.length ca]), .iface 194 (.string s), .iface 195 (.agg #[.int .i64 b.kind, .string b.name, .int .i64 b.num, .slice Ab b.kids.length cb])] 235)).drew).cell? ⟨kb, ko + 4, none⟩ = some (.int .i64 b.kind) /\ ((V.alloc (.cells #[.iface 195 (.agg #[.int .i64 a.kind, .string a.name, .int .i64 a.num, .slice Aa a.kids.length ca]), .iface 194 (.string s), .iface 195 (.agg #[.int .i64 b.kind, .string b.name, .int .i64 b.num, .slice Ab b.kids.length cb])] 235)).drew).cell? ⟨kb, ko + 4 + 1, none⟩ = some (.string b.name) /\ ((V.alloc (.cells #[.iface 195 (.agg #[.int .i64 a.kind, .string a.name, .int .i64 a.num, .slice Aa a.kids.length ca]), .iface 194 (.string s), .iface 195 (.agg #[.int .i64 b.kind, .string b.name, .int .i64 b.num, .slice Ab b.kids.length cb])] 235)).drew).cell? ⟨kb, ko + 4 + 2, none⟩ = some (.int .i64 b.num) /\ ((V.alloc (.cells #[.iface 195 (.agg #[.int .i64 a.kind, .string a.name, .int .i64 a.num, .slice Aa a.kids.length ca]), .iface 194 (.string s), .iface 195 (.agg #[.int .i64 b.kind, .string b.name, .int .i64 b.num, .slice Ab b.kids.length cb])] 235)).drew).cell? ⟨kb, ko + 4 + 3, none⟩ = some (.slice Ab b.kids.length cb)) := ⟨((qab V (.cells #[.iface 195 (.agg #[.int .i64 a.kind, .string a.name, .int .i64 a.num, .slice Aa a.kids.length ca]), .iface 194 (.string s), .iface 195 (.agg #[.int .i64 b.kind, .string b.name, .int .i64 b.num, .slice Ab b.kids.length cb])] 235)).cell (p := ⟨w.heap.size, 1, none⟩) hlv).trans i1, ((qab V (.cells #[.iface 195 (.agg #[.int .i64 a.kind, .string a.name, .int .i64 a.num, .slice Aa a.kids.length ca]), .iface 194 (.string s), .iface 195 (.agg #[.int .i64 b.kind, .string b.name, .int .i64 b.num, .slice Ab b.kids.length cb])] 235)).cell (p := ⟨kb, ko, none⟩) hkba).trans ac0, ((qab V (.cells #[.iface 195 (.agg #[.int .i64 a.kind, .string a.name, .int .i64 a.num, .slice Aa a.kids.length ca]), .iface 194 (.string s), .iface 195 (.agg #[.int .i64 b.kind, .string b.name, .int .i64 b.num, .slice Ab b.kids.length cb])] 235)).cell (p := ⟨kb, ko + 1, none⟩) hkba).trans ac1, ((qab V (.cells #[.iface 195 (.agg #[.int .i64 a.kind, .string a.name, .int .i64 a.num, .slice Aa a.kids.length ca]), .iface 194 (.string s), .iface 195 (.agg #[.int .i64 b.kind, .string b.name, .int .i64 b.num, .slice Ab b.kids.length cb])] 235)).cell (p := ⟨kb, ko + 2, none⟩) hkba).trans ac2, ((qab V (.cells #[.iface 195 (.agg #[.int .i64 a.kind, .string a.name, .int .i64 a.num, .slice Aa a.kids.length ca]), .iface 194 (.string s), .iface 195 (.agg #[.int .i64 b.kind, .string b.name, .int .i64 b.num, .slice Ab b.kids.length cb])] 235)).cell (p := ⟨kb, ko + 3, none⟩) hkba).trans ac3, ((qab V (.cells #[.iface 195 (.agg #[.int .i64 a.kind, .string a.name, .int .i64 a.num, .slice Aa a.kids.length ca]), .iface 194 (.string s), .iface 195 (.agg #[.int .i64 b.kind, .string b.name, .int .i64 b.num, .slice Ab b.kids.length cb])] 235)).cell (p := ⟨kb, ko + 4, none⟩) hkba).trans bc0, ((qab V (.cells #[.iface 195 (.agg #[.int .i64 a.kind, .string a.name, .int .i64 a.num, .slice Aa a.kids.length ca]), .iface 194 (.string s), .iface 195 (.agg #[.int .i64 b.kind, .string b.name, .int .i64 b.num, .slice Ab b.kids.length cb])] 235)).cell (p := ⟨kb, ko + 4 + 1, none⟩) hkba).trans bc1, ((qab V (.cells #[.iface 195 (.agg #[.int .i64 a.kind, .string a.name, .int .i64 a.num, .slice Aa a.kids.length ca]), .iface 194 (.string s), .iface 195 (.agg #[.int .i64 b.kind, .string b.name, .int .i64 b.num, .slice Ab b.kids.length cb])] 235)).cell (p := ⟨kb, ko + 4 + 2, none⟩) hkba).trans bc2, ((qab V (.cells #[.iface 195 (.agg #[.int .i64 a.kind, .string a.name, .int .i64 a.num, .slice Aa a.kids.length ca]), .iface 194 (.string s), .iface 195 (.agg #[.int .i64 b.kind, .string b.name, .int .i64 b.num, .slice Ab b.kids.length cb])] 235)).cell (p := ⟨kb, ko + 4 + 3, none⟩) hkba).trans bc3⟩
 have hSk : Hid (∀ v1 w1, qam base ts (([.inr (a, Aa, ca), .inl (mTok s.data.toList), .inr (b, Ab, cb)] : List Pt).flatMap partT) V.drew v v1 w1 -> (w1).cell? ⟨w.heap.size, 1, none⟩ = some (.string s) /\ (w1).cell? ⟨kb, ko, none⟩ = some (.int .i64 a.kind) /\ (w1).cell? ⟨kb, ko + 1, none⟩ = some (.string a.name) /\ (w1).cell? ⟨kb, ko + 2, none⟩ = some (.int .i64 a.num) /\ (w1).cell? ⟨kb, ko + 3, none⟩ = some (.slice Aa a.kids.length ca) /\ (w1).cell? ⟨kb, ko + 4, none⟩ = some (.int .i64 b.kind) /\ (w1).cell? ⟨kb, ko + 4 + 1, none⟩ = some (.string b.name) /\ (w1).cell? ⟨kb, ko + 4 + 2, none⟩ = some (.int .i64 b.num) /\ (w1).cell? ⟨kb, ko + 4 + 3, none⟩ = some (.slice Ab b.kids.length cb)) := fun v1 w1 h => ⟨(h.2.cell (b := w.heap.size) (o := 1) hob).trans i1, (h.2.cell (b := kb) (o := ko) hokb).trans ac0, (h.2.cell (b := kb) (o := ko + 1) hokb).trans ac1, (h.2.cell (b := kb) (o := ko + 2) hokb).trans ac2, (h.2.cell (b := kb) (o := ko + 3) hokb).trans ac3, (h.2.cell (b := kb) (o := ko + 4) hokb).trans bc0, (h.2.cell (b := kb) (o := ko + 4 + 1) hokb).trans bc1, (h.2.cell (b := kb) (o := ko + 4 + 2) hokb).trans bc2, (h.2.cell (b := kb) (o := ko + 4 + 3) hokb).trans bc3⟩
 clear kl0 hbV hbW hgW hEW hOW hTW hT hown hE hok hkk htt hlen hl hva hvb
 replace hbx := hid hbx
 replace hV := hid hV
 replace hVs := hid hVs
 go_enter Tryz.func82, Tryz.ntmps82
 go_wp2_with fail
 try rw [hV.out]
 go_region_held3 (fun w' => (w').cell? ⟨w.heap.size, 1, none⟩ = some (.string s) /\ (w').cell? ⟨kb, ko, none⟩ = some (.int .i64 a.kind) /\ (w').cell? ⟨kb, ko + 1, none⟩ = some (.string a.name) /\ (w').cell? ⟨kb, ko + 2, none⟩ = some (.int .i64 a.num) /\ (w').cell? ⟨kb, ko + 3, none⟩ = some (.slice Aa a.kids.length ca) /\ (w').cell? ⟨kb, ko + 4, none⟩ = some (.int .i64 b.kind) /\ (w').cell? ⟨kb, ko + 4 + 1, none⟩ = some (.string b.name) /\ (w').cell? ⟨kb, ko + 4 + 2, none⟩ = some (.int .i64 b.num) /\ (w').cell? ⟨kb, ko + 4 + 3, none⟩ = some (.slice Ab b.kids.length cb)) (first | exact hS0 | exact hSa.out | exact hS1.out) (first | (go_at_call 123; refine kl.out.mono ?_; rintro e w1 ⟨v1, rfl, hp⟩; have hS1 := hid (hSk.out _ _ hp); replace hp := hid (hend.out _ _ hp); clear kl))
 all_goals go_wp2
 all_goals go_ret
 all_goals exact ⟨_, rfl, hp.out⟩
theorem qsi  (a : Go.Tm.T) (b : Go.Tm.T) (Ha : qaB a) (Hb : qaB b) : qbk (.node 13 ⟨#[]⟩ 0 [a, b]) := fun base v ts A c w h8 hbase hE hown hT hl => by
 have hbV : Below w.heap.size w (w.alloc (.cells #[.int .i64 13, .string ⟨#[]⟩, .int .i64 0, .slice A 2 c] 26)) := qab _ _
 have hbx : (w.alloc (.cells #[.int .i64 13, .string ⟨#[]⟩, .int .i64 0, .slice A 2 c] 26)).heap[w.heap.size]? = some (.cells #[.int .i64 13, .string ⟨#[]⟩, .int .i64 0, .slice A 2 c] 26 (0, 0)) := World.alloc_heap_new _ _
 have hVs : (w.alloc (.cells #[.int .i64 13, .string ⟨#[]⟩, .int .i64 0, .slice A 2 c] 26)).heap.size = w.heap.size + 1 := by simp
 show Calls Tryz.prog 82 #[v, .agg #[.int .i64 13, .string ⟨#[]⟩, .int .i64 0, .slice A 2 c]] w _
 obtain ⟨V, hV⟩ : ∃ V, w.alloc (.cells #[.int .i64 13, .string ⟨#[]⟩, .int .i64 0, .slice A 2 c] 26) = V := ⟨_, rfl⟩
 rw [hV] at hbV hbx hVs
 have hbW : Below w.heap.size w V.drew := hbV.drew
 have hgW : Gr w V.drew v v := Gr.of_below hbW
 have hEW := hE.below (Nat.le_refl _) (hbW.mono hE.size)
 have hOW := qaM hown hbW
 have hTW := hgW.tm hT
 have hbs : base <= (V.drew).heap.size := Nat.le_trans hbase hbW.size
 have i0 := qaa V w.heap.size 0 _ _ _ hbx
 have i1 := qaa V w.heap.size 1 _ _ _ hbx
 have i2 := qaa V w.heap.size 2 _ _ _ hbx
 have i3 := qaa V w.heap.size 3 _ _ _ hbx
 have hlv : w.heap.size < V.heap.size := by omega
 have hob : Out V.drew v w.heap.size := ⟨hlv, fun e => by have := qcx hown _ e; omega⟩
 obtain ⟨kb, ko, rfl, hrow⟩ := hTW.row.resolve_left (fun e => by cases e)
 obtain ⟨Aa, ca, hha, hva⟩ := qaG (hrow.get 0 (by show _ < 2; decide))
 replace hva : TmV V.drew (Out V.drew v) a Aa ca := hva
 have ac0 : V.cell? ⟨kb, ko, none⟩ = some (.int .i64 a.kind) := hha.kind
 have ac1 : V.cell? ⟨kb, ko + 1, none⟩ = some (.string a.name) := hha.name
 have ac2 : V.cell? ⟨kb, ko + 2, none⟩ = some (.int .i64 a.num) := hha.num
 have ac3 : V.cell? ⟨kb, ko + 3, none⟩ = some (.slice Aa a.kids.length ca) := hha.kids
 have hkba : kb < V.heap.size := hha.at_.1
 have hokb : Out V.drew v kb := hha.at_
 clear hha
 obtain ⟨Ab, cb, hhb, hvb⟩ := qaG (hrow.get 1 (by show _ < 2; decide))
 replace hvb : TmV V.drew (Out V.drew v) b Ab cb := hvb
 have bc0 : V.cell? ⟨kb, ko + 4, none⟩ = some (.int .i64 b.kind) := hhb.kind
 have bc1 : V.cell? ⟨kb, ko + 4 + 1, none⟩ = some (.string b.name) := hhb.name
 have bc2 : V.cell? ⟨kb, ko + 4 + 2, none⟩ = some (.int .i64 b.num) := hhb.num
 have bc3 : V.cell? ⟨kb, ko + 4 + 3, none⟩ = some (.slice Ab b.kids.length cb) := hhb.kids
 clear hhb
 clear hrow
 have hlen : ts.length + (([.inr (a, Aa, ca), .inl (mTok [59]), .inr (b, Ab, cb)] : List Pt).flatMap partT).length <= 1099511627776 := by rw [qdD] at hl; simpa [partT] using hl
 have hok : ∀ p ∈ ([.inr (a, Aa, ca), .inl (mTok [59]), .inr (b, Ab, cb)] : List Pt), qcm p := by
   intro p hp
   simp only [List.mem_cons, List.not_mem_nil, or_false] at hp
   rcases hp with rfl | rfl | rfl
   . exact trivial
   . exact .inl ⟨.inr (.inr rfl), rfl⟩
   . exact trivial
 have hkk : ∀ u, .inr u ∈ ([.inr (a, Aa, ca), .inl (mTok [59]), .inr (b, Ab, cb)] : List Pt) -> qaB u.1 := by
   intro u hu
   simp at hu
   rcases hu with rfl | rfl
   . exact Ha
   . exact Hb
 have htt : ∀ u, .inr u ∈ ([.inr (a, Aa, ca), .inl (mTok [59]), .inr (b, Ab, cb)] : List Pt) -> TmV V.drew (Out V.drew v) u.1 u.2.1 u.2.2 := by
   intro u hu
   simp at hu
   rcases hu with rfl | rfl
   . exact hva
   . exact hvb
 have kl0 := qbP [.inr (a, Aa, ca), .inl (mTok [59]), .inr (b, Ab, cb)] hok hkk base v ts 3 V.drew 235 h8 hbs hEW hOW htt hlen (by show 3 <= _; decide)
 have kl : Calls Tryz.prog 123 #[v, .slice (some ⟨V.heap.size, 0, none⟩) 3 3] (V.drew.alloc (.cells #[.iface 195 (.agg #[.int .i64 a.kind, .string a.name, .int .i64 a.num, .slice Aa a.kids.length ca]), .iface 194 (.string ⟨#[59]⟩), .iface 195 (.agg #[.int .i64 b.kind, .string b.name, .int .i64 b.num, .slice Ab b.kids.length cb])] 235)) fun e w' => ∃ v', e = .returned v' /\ qam base ts (([.inr (a, Aa, ca), .inl (mTok [59]), .inr (b, Ab, cb)] : List Pt).flatMap partT) V.drew v v' w' := kl0
 replace kl := hid kl
 have hend : Hid (∀ v' w', qam base ts (([.inr (a, Aa, ca), .inl (mTok [59]), .inr (b, Ab, cb)] : List Pt).flatMap partT) V.drew v v' w' -> qam base ts (toksT (.node 13 ⟨#[]⟩ 0 [a, b])) w v v' w') := fun v' w' h => by
   have e : toksT (.node 13 ⟨#[]⟩ 0 [a, b]) = ([.inr (a, Aa, ca), .inl (mTok [59]), .inr (b, Ab, cb)] : List Pt).flatMap partT := by rw [qdD]; first | rfl | simp [partT]
   rw [e]; exact h.of hgW
 have hS0 : (V).cell? ⟨kb, ko, none⟩ = some (.int .i64 a.kind) /\ (V).cell? ⟨kb, ko + 1, none⟩ = some (.string a.name) /\ (V).cell? ⟨kb, ko + 2, none⟩ = some (.int .i64 a.num) /\ (V).cell? ⟨kb, ko + 3, none⟩ = some (.slice Aa a.kids.length ca) /\ (V).cell? ⟨kb, ko + 4, none⟩ = some (.int .i64 b.kind) /\ (V).cell? ⟨kb, ko + 4 + 1, none⟩ = some (.string b.name) /\ (V).cell? ⟨kb, ko + 4 + 2, none⟩ = some (.int .i64 b.num) /\ (V).cell? ⟨kb, ko + 4 + 3, none⟩ = some (.slice Ab b.kids.length cb) := ⟨ac0, ac1, ac2, ac3, bc0, bc1, bc2, bc3⟩
 have hSa : Hid (((V.alloc (.cells #[.iface 195 (.agg #[.int .i64 a.kind, .string a.name, .int .i64 a.num, .slice Aa a.kids.length ca]), .iface 194 (.string ⟨#[59]⟩), .iface 195 (.agg #[.int .i64 b.kind, .string b.name, .int .i64 b.num, .slice Ab b.kids.length cb])] 235)).drew).cell? ⟨kb, ko, none⟩ = some (.int .i64 a.kind) /\ ((V.alloc (.cells #[.iface 195 (.agg #[.int .i64 a.kind, .string a.name, .int .i64 a.num, .slice Aa a.kids.length ca]), .iface 194 (.string ⟨#[59]⟩), .iface 195 (.agg #[.int .i64 b.kind, .string b.name, .int .i64 b.num, .slice Ab b.kids.length cb])] 235)).drew).cell? ⟨kb, ko + 1, none⟩ = some (.string a.name) /\ ((V.alloc (.cells #[.iface 195 (.agg #[.int .i64 a.kind, .string a.name, .int .i64 a.num, .slice Aa a.kids.length ca]), .iface 194 (.string ⟨#[59]⟩), .iface 195 (.agg #[.int .i64 b.kind, .string b.name, .int .i64 b.num, .slice Ab b.kids.length cb])] 235)).drew).cell? ⟨kb, ko + 2, none⟩ = some (.int .i64 a.num) /\ ((V.alloc (.cells #[.iface 195 (.agg #[.int .i64 a.kind, .string a.name, .int .i64 a.num, .slice Aa a.kids.length ca]), .iface 194 (.string ⟨#[59]⟩), .iface 195 (.agg #[.int .i64 b.kind, .string b.name, .int .i64 b.num, .slice Ab b.kids.length cb])] 235)).drew).cell? ⟨kb, ko + 3, none⟩ = some (.slice Aa a.kids.length ca) /\ ((V.alloc (.cells #[.iface 195 (.agg #[.int .i64 a.kind, .string a.name, .int .i64 a.num, .slice Aa a.kids.length ca]), .iface 194 (.string ⟨#[59]⟩), .iface 195 (.agg #[.int .i64 b.kind, .string b.name, .int .i64 b.num, .slice Ab b.kids.length cb])] 235)).drew).cell? ⟨kb, ko + 4, none⟩ = some (.int .i64 b.kind) /\ ((V.alloc (.cells #[.iface 195 (.agg #[.int .i64 a.kind, .string a.name, .int .i64 a.num, .slice Aa a.kids.length ca]), .iface 194 (.string ⟨#[59]⟩), .iface 195 (.agg #[.int .i64 b.kind, .string b.name, .int .i64 b.num, .slice Ab b.kids.length cb])] 235)).drew).cell? ⟨kb, ko + 4 + 1, none⟩ = some (.string b.name) /\ ((V.alloc (.cells #[.iface 195 (.agg #[.int .i64 a.kind, .string a.name, .int .i64 a.num, .slice Aa a.kids.length ca]), .iface 194 (.string ⟨#[59]⟩), .iface 195 (.agg #[.int .i64 b.kind, .string b.name, .int .i64 b.num, .slice Ab b.kids.length cb])] 235)).drew).cell? ⟨kb, ko + 4 + 2, none⟩ = some (.int .i64 b.num) /\ ((V.alloc (.cells #[.iface 195 (.agg #[.int .i64 a.kind, .string a.name, .int .i64 a.num, .slice Aa a.kids.length ca]), .iface 194 (.string ⟨#[59]⟩), .iface 195 (.agg #[.int .i64 b.kind, .string b.name, .int .i64 b.num, .slice Ab b.kids.length cb])] 235)).drew).cell? ⟨kb, ko + 4 + 3, none⟩ = some (.slice Ab b.kids.length cb)) := ⟨((qab V (.cells #[.iface 195 (.agg #[.int .i64 a.kind, .string a.name, .int .i64 a.num, .slice Aa a.kids.length ca]), .iface 194 (.string ⟨#[59]⟩), .iface 195 (.agg #[.int .i64 b.kind, .string b.name, .int .i64 b.num, .slice Ab b.kids.length cb])] 235)).cell (p := ⟨kb, ko, none⟩) hkba).trans ac0, ((qab V (.cells #[.iface 195 (.agg #[.int .i64 a.kind, .string a.name, .int .i64 a.num, .slice Aa a.kids.length ca]), .iface 194 (.string ⟨#[59]⟩), .iface 195 (.agg #[.int .i64 b.kind, .string b.name, .int .i64 b.num, .slice Ab b.kids.length cb])] 235)).cell (p := ⟨kb, ko + 1, none⟩) hkba).trans ac1, ((qab V (.cells #[.iface 195 (.agg #[.int .i64 a.kind, .string a.name, .int .i64 a.num, .slice Aa a.kids.length ca]), .iface 194 (.string ⟨#[59]⟩), .iface 195 (.agg #[.int .i64 b.kind, .string b.name, .int .i64 b.num, .slice Ab b.kids.length cb])] 235)).cell (p := ⟨kb, ko + 2, none⟩) hkba).trans ac2, ((qab V (.cells #[.iface 195 (.agg #[.int .i64 a.kind, .string a.name, .int .i64 a.num, .slice Aa a.kids.length ca]), .iface 194 (.string ⟨#[59]⟩), .iface 195 (.agg #[.int .i64 b.kind, .string b.name, .int .i64 b.num, .slice Ab b.kids.length cb])] 235)).cell (p := ⟨kb, ko + 3, none⟩) hkba).trans ac3, ((qab V (.cells #[.iface 195 (.agg #[.int .i64 a.kind, .string a.name, .int .i64 a.num, .slice Aa a.kids.length ca]), .iface 194 (.string ⟨#[59]⟩), .iface 195 (.agg #[.int .i64 b.kind, .string b.name, .int .i64 b.num, .slice Ab b.kids.length cb])] 235)).cell (p := ⟨kb, ko + 4, none⟩) hkba).trans bc0, ((qab V (.cells #[.iface 195 (.agg #[.int .i64 a.kind, .string a.name, .int .i64 a.num, .slice Aa a.kids.length ca]), .iface 194 (.string ⟨#[59]⟩), .iface 195 (.agg #[.int .i64 b.kind, .string b.name, .int .i64 b.num, .slice Ab b.kids.length cb])] 235)).cell (p := ⟨kb, ko + 4 + 1, none⟩) hkba).trans bc1, ((qab V (.cells #[.iface 195 (.agg #[.int .i64 a.kind, .string a.name, .int .i64 a.num, .slice Aa a.kids.length ca]), .iface 194 (.string ⟨#[59]⟩), .iface 195 (.agg #[.int .i64 b.kind, .string b.name, .int .i64 b.num, .slice Ab b.kids.length cb])] 235)).cell (p := ⟨kb, ko + 4 + 2, none⟩) hkba).trans bc2, ((qab V (.cells #[.iface 195 (.agg #[.int .i64 a.kind, .string a.name, .int .i64 a.num, .slice Aa a.kids.length ca]), .iface 194 (.string ⟨#[59]⟩), .iface 195 (.agg #[.int .i64 b.kind, .string b.name, .int .i64 b.num, .slice Ab b.kids.length cb])] 235)).cell (p := ⟨kb, ko + 4 + 3, none⟩) hkba).trans bc3⟩
 have hSk : Hid (∀ v1 w1, qam base ts (([.inr (a, Aa, ca), .inl (mTok [59]), .inr (b, Ab, cb)] : List Pt).flatMap partT) V.drew v v1 w1 -> (w1).cell? ⟨kb, ko, none⟩ = some (.int .i64 a.kind) /\ (w1).cell? ⟨kb, ko + 1, none⟩ = some (.string a.name) /\ (w1).cell? ⟨kb, ko + 2, none⟩ = some (.int .i64 a.num) /\ (w1).cell? ⟨kb, ko + 3, none⟩ = some (.slice Aa a.kids.length ca) /\ (w1).cell? ⟨kb, ko + 4, none⟩ = some (.int .i64 b.kind) /\ (w1).cell? ⟨kb, ko + 4 + 1, none⟩ = some (.string b.name) /\ (w1).cell? ⟨kb, ko + 4 + 2, none⟩ = some (.int .i64 b.num) /\ (w1).cell? ⟨kb, ko + 4 + 3, none⟩ = some (.slice Ab b.kids.length cb)) := fun v1 w1 h => ⟨(h.2.cell (b := kb) (o := ko) hokb).trans ac0, (h.2.cell (b := kb) (o := ko + 1) hokb).trans ac1, (h.2.cell (b := kb) (o := ko + 2) hokb).trans ac2, (h.2.cell (b := kb) (o := ko + 3) hokb).trans ac3, (h.2.cell (b := kb) (o := ko + 4) hokb).trans bc0, (h.2.cell (b := kb) (o := ko + 4 + 1) hokb).trans bc1, (h.2.cell (b := kb) (o := ko + 4 + 2) hokb).trans bc2, (h.2.cell (b := kb) (o := ko + 4 + 3) hokb).trans bc3⟩
 clear kl0 hbV hbW hgW hEW hOW hTW hT hown hE hok hkk htt hlen hl hva hvb
 replace hbx := hid hbx
 replace hV := hid hV
 replace hVs := hid hVs
 go_enter Tryz.func82, Tryz.ntmps82
 go_wp2_with fail
 try rw [hV.out]
 go_region_held3 (fun w' => (w').cell? ⟨kb, ko, none⟩ = some (.int .i64 a.kind) /\ (w').cell? ⟨kb, ko + 1, none⟩ = some (.string a.name) /\ (w').cell? ⟨kb, ko + 2, none⟩ = some (.int .i64 a.num) /\ (w').cell? ⟨kb, ko + 3, none⟩ = some (.slice Aa a.kids.length ca) /\ (w').cell? ⟨kb, ko + 4, none⟩ = some (.int .i64 b.kind) /\ (w').cell? ⟨kb, ko + 4 + 1, none⟩ = some (.string b.name) /\ (w').cell? ⟨kb, ko + 4 + 2, none⟩ = some (.int .i64 b.num) /\ (w').cell? ⟨kb, ko + 4 + 3, none⟩ = some (.slice Ab b.kids.length cb)) (first | exact hS0 | exact hSa.out | exact hS1.out) (first | (go_at_call 123; refine kl.out.mono ?_; rintro e w1 ⟨v1, rfl, hp⟩; have hS1 := hid (hSk.out _ _ hp); replace hp := hid (hend.out _ _ hp); clear kl))
 all_goals go_wp2
 all_goals go_ret
 all_goals exact ⟨_, rfl, hp.out⟩
end Go.Proofs.YtjnfhebbphdchaaGreatDoor
namespace Go.Proofs.YtjnfhebbphdchaaGreatDoor.X
open Go.RowKit Go.Lx
theorem qgj : (Tryz.prog.info? 9).map (fun i => (i.zero, i.size, i.bytes)) = some (some (.string ⟨#[]⟩), 1, 16) := by kernel_rfl
def qhO (ts : List Tok) (k j : Nat) : Value := if j < k then .string (strOf (ts.getD j ⟨0, [], 0⟩).text) else .string ⟨#[]⟩
theorem qni (ts : List Tok) (k j : Nat) : (if j = k then .string (strOf (ts.getD k ⟨0, [], 0⟩).text) else qhO ts k j) = qhO ts (k + 1) j := by
 unfold qhO
 by_cases e : j = k
 . subst e; rw [if_pos rfl, if_pos (by omega)]
 . rw [if_neg e]
   by_cases g : j < k
   . rw [if_pos g, if_pos (by omega)]
   . rw [if_neg g, if_neg (by omega)]
theorem qoR {ts : List Tok} {j : Nat} {x : ByteArray} (h : (ts.map fun t => strOf t.text)[j]? = some x) : j < ts.length /\ x = strOf (ts.getD j ⟨0, [], 0⟩).text := by
 rw [List.getElem?_map] at h
 obtain ⟨t, ht, rfl⟩ := Option.map_eq_some_iff.1 h
 obtain ⟨hj, rfl⟩ := List.getElem?_eq_some_iff.1 ht
 exact ⟨hj, by rw [List.getD_eq_getElem?_getD, ht]; rfl⟩
theorem qhP (ts : List Tok) : (ts.map fun t => strOf t.text).map (·.data.toList) = ts.map (·.text) := by
 rw [List.map_map]
 apply List.map_congr_left
 intro t _
 exact qaP t.text
theorem qoS (A : Option Addr) (ts : List Tok) (c : Nat) (w : World) (hU : Toks w w.heap.size A ts) (hl : ts.length <= 1099511627776) (hj : (Lib.join (ts.map (·.text)) [32]).length <= 140737488355328) :
   Calls Tryz.prog 51 #[.slice A ts.length c] w fun e w' => e = .returned (.string (strOf (Lib.join (ts.map (·.text)) [32]))) /\ Below w.heap.size w w' := by
 have hmk := run_make_row' (P := Tryz.prog) 94 9 (.string ⟨#[]⟩) 16 Tryz.underlying94 qgj rfl .i64 .i64 ts.length (by omega) (by omega)
 replace hj := hid hj
 go_enter Tryz.func51, Tryz.ntmps51
 go_wp2_with fail
 clear hmk
 go_loopw [11] (fun i wr => ∃ k : Nat, k <= ts.length /\ i = .int .i64 k /\ wr.rowIs w.heap.size 9 ts.length (qhO ts k) /\ Hid (Below w.heap.size w wr)) (fun i _ => ts.length - (intOf i).toNat)
 case atStart => exact ⟨0, Nat.zero_le _, rfl, (World.rowIs_made w _ _ _).congr fun j _ => by unfold qhO; simp, (Below.refl _ _).alloc (Nat.le_refl _) _⟩
 case round =>
   obtain ⟨k, hk, rfl, hrow, hB⟩ := hrel
   by_cases hlt : k < ts.length
   . obtain ⟨b, off, rfl, hb, hc⟩ := hU (by intro e; subst e; simp at hlt)
     obtain ⟨c0, c1, c2⟩ := hc k hlt
     replace c0 := (hB.out.cell (p := ⟨b, off + k * 3, none⟩) hb).trans c0
     replace c1 := (hB.out.cell (p := ⟨b, off + k * 3 + 1, none⟩) hb).trans c1
     replace c2 := (hB.out.cell (p := ⟨b, off + k * 3 + 2, none⟩) hb).trans c2
     have hset := qni ts k
     replace hset := hid hset
     clear hc
     generalize hq : ts.getD k ⟨0, [], 0⟩ = q at c0 c1 c2 hset
     obtain ⟨qk, qt, qn⟩ := q
     dsimp only at c0 c1 c2 hset
     have hxc := hrow.cell hlt
     have hxf := hrow.frozen k
     have hgl := hrow.lt
     clear hq
     go_wp2_with fail
     go_roundw
     case rel => exact ⟨k + 1, by omega, by go_num, ((hrow.set k _).congr fun j _ => hset.out j).alloc _, (hB.out.setCell (p := ⟨w.heap.size, k, none⟩) (Nat.le_refl _) _).alloc (by have := hB.out.size; simpa using this) _⟩
     case measure => simp [intOf]; omega
   . obtain rfl : k = ts.length := by omega
     have kj := Tryz.strings_Join w.heap.size 0 ts.length (ts.map fun t => strOf t.text) ⟨#[32]⟩ wr (fun j x hx => by
       obtain ⟨h1, rfl⟩ := qoR hx
       have := hrow.cell h1
       unfold qhO at this
       rw [if_pos h1] at this
       rw [Nat.zero_add]; exact this) hrow.lt (by rw [List.length_map]; omega) (by rw [List.length_map]; exact Nat.le_refl _) (by rw [qhP]; exact hj.out)
     rw [List.length_map, qhP] at kj
     replace kj := hid kj
     clear hrow
     go_wp2_with fail
     refine kj.out.mono ?_
     rintro e w9 ⟨rfl, hb9⟩
     replace hb9 := hid hb9
     go_wp2_with fail
     go_ret
     exact ⟨rfl, hB.out.trans (hb9.out.mono hB.out.size)⟩
end Go.Proofs.YtjnfhebbphdchaaGreatDoor.X
namespace Go.Proofs.YtjnfhebbphdchaaGreatDoor
open Go.RowKit Go.Shelf Go.Tm Go.Lx Go.Maps
theorem qqD {t : Go.Tm.T} (h : Rt t) : qbk t := by
 induction h with
 | num n h0 h1 => exact qsS n h0 h1
 | var s h => exact qsT s
 | fn s a h ha ia => exact qsU s a (qaC a ia)
 | app a b ha hb ia ib => exact qsV a b (qaC a ia) (qaC b ib)
 | lt s a b h ha hb ia ib => exact qsY s a b (qaC a ia) (qaC b ib)
 | cond a b c ha hb hc ia ib ic => exact qta a b c (qaC a ia) (qaC b ib) (qaC c ic)
 | loop a b ha hb ia ib => exact qsW a b (qaC a ia) (qaC b ib)
 | raise a ha ia => exact qsX a (qaC a ia)
 | tri s a b h ha hb ia ib => exact qsZ s a b (qaC a ia) (qaC b ib)
 | get a ha ia => exact qsf a (qaC a ia)
 | put a b ha hb ia ib => exact qsg a b (qaC a ia) (qaC b ib)
 | op s a b h ha hb ia ib => exact qsh s a b (qaC a ia) (qaC b ib)
 | sq a b ha hb ia ib => exact qsi a b (qaC a ia) (qaC b ib)
structure EnvS (w : World) : Prop where
 tm : Env w
 lx : X.Env w
 size : 8 <= w.heap.size
theorem EnvS.later {w w' : World} (h : EnvS w) (hb : Below w.heap.size w w') : EnvS w' := ⟨h.tm.later hb, h.lx.later hb, Nat.le_trans h.size hb.size⟩
theorem EnvS.t {w : World} (h : EnvS w) : EnvT w := ⟨h.lx.tab, h.size⟩
def showT (t : Go.Tm.T) : List Tok := if qai t = true then toksT t else []
theorem qlV {t : Go.Tm.T} (h : qai t = true) : Rt t /\ t.size <= 10000 := by
 rw [qgx, Bool.and_eq_true, Bool.and_eq_true, decide_eq_true_eq] at h
 exact ⟨rt_of t.size t (Nat.le_refl _) h.2.2, h.1⟩
theorem qqE {W : World} {base : Nat} {v : Value} {l : List Tok} (h : W.ownsRow base 118 3 v l.length (toksC l)) : ∃ A c, v = .slice A l.length c /\ X.Toks W W.heap.size A l := by
 obtain ⟨A, c, h1, h2, _⟩ := X.qoL (l := l) h
 exact ⟨A, c, h1, h2⟩
theorem qqF (t : Go.Tm.T) (A : Option Addr) (c : Nat) (w : World) (hE : EnvS w) (hz : t.size <= 4194304) (hT : TmV w (· < w.heap.size) t A c) :
   Calls Tryz.prog 50 #[tmV t A c] w fun e w' => ∃ B d, e = .returned (.slice B (showT t).length d) /\ X.Toks w' w'.heap.size B (showT t) /\ Below w.heap.size w w' := by
 have hbV : Below w.heap.size w (w.alloc (.cells #[.int .i64 t.kind, .string t.name, .int .i64 t.num, .slice A t.kids.length c] 26)) := qab _ _
 have hbx : (w.alloc (.cells #[.int .i64 t.kind, .string t.name, .int .i64 t.num, .slice A t.kids.length c] 26)).heap[w.heap.size]? = some (.cells #[.int .i64 t.kind, .string t.name, .int .i64 t.num, .slice A t.kids.length c] 26 (0, 0)) := World.alloc_heap_new _ _
 have kr := qcv t A c (w.alloc (.cells #[.int .i64 t.kind, .string t.name, .int .i64 t.num, .slice A t.kids.length c] 26)) (hE.later hbV).tm hz (hT.later hbV)
 obtain ⟨V, hV⟩ : ∃ V, w.alloc (.cells #[.int .i64 t.kind, .string t.name, .int .i64 t.num, .slice A t.kids.length c] 26) = V := ⟨_, rfl⟩
 rw [hV] at hbV hbx kr
 unfold tmV at kr ⊢
 have i0 := qaa V w.heap.size 0 _ _ _ hbx
 have i1 := qaa V w.heap.size 1 _ _ _ hbx
 have i2 := qaa V w.heap.size 2 _ _ _ hbx
 have i3 := qaa V w.heap.size 3 _ _ _ hbx
 have hlv := World.lt_of_get hbx
 replace hbx := hid hbx
 replace hV := hid hV
 replace hbV := hid hbV
 replace hE := hid hE
 replace hT := hid hT
 cases hr : qai t with
 | false =>
   have hs : Hid (showT t = []) := by show _ = _; unfold showT; rw [hr]; rfl
   rw [hr] at kr
   replace kr := hid kr
   rw [hs.out]
   clear hr
   go_enter Tryz.func50, Tryz.ntmps50
   go_wp2_with fail
   try rw [hV.out]
   go_wp2_with fail
   refine kr.out.mono ?_
   rintro e w1 ⟨rfl, hb1⟩
   have hb := hid (hbV.out.trans (hb1.mono (by omega)))
   clear hb1 kr
   go_wp2_with fail
   go_ret
   exact ⟨_, _, rfl, X.Toks.nil _ _ _, hb.out⟩
 | true =>
   have hs : Hid (showT t = toksT t) := by show _ = _; unfold showT; rw [hr]; rfl
   obtain ⟨hrt, hz2⟩ := qlV hr
   have hlen := (qeu hrt).1
   rw [hr] at kr
   replace kr := hid kr
   rw [hs.out]
   clear hr
   replace hrt := hid hrt
   go_enter Tryz.func50, Tryz.ntmps50
   go_wp2_with fail
   try rw [hV.out]
   go_wp2_with fail
   refine kr.out.mono ?_
   rintro e w1 ⟨rfl, hb1⟩
   have hx1 := (hb1.block w.heap.size hlv).trans hbx.out
   have hb2 := hbV.out.trans (hb1.mono (by omega))
   have kl := qqD hrt.out w1.heap.size (.slice none 0 0) [] A c w1 (hE.out.later hb2).size (Nat.le_refl _) (hE.out.later hb2).t (World.ownsRow_nil _ _ _ _) ((hT.out.later hb2).kept (fun k hk => ⟨hk, fun e => by cases e⟩) (fun _ _ => rfl)) (by simp; omega)
   unfold tmV at kl
   replace kl := hid kl
   replace i0 := qaa w1 w.heap.size 0 _ _ _ hx1
   replace i1 := qaa w1 w.heap.size 1 _ _ _ hx1
   replace i2 := qaa w1 w.heap.size 2 _ _ _ hx1
   replace i3 := qaa w1 w.heap.size 3 _ _ _ hx1
   have hl1 := World.lt_of_get hx1
   replace hx1 := hid hx1
   replace hb2 := hid hb2
   clear hb1 kr
   go_wp2_with fail
   refine kl.out.mono ?_
   rintro e w2 ⟨v2, rfl, hp⟩
   obtain ⟨hp1, hp2⟩ := hp
   rw [List.nil_append] at hp1
   obtain ⟨B, d, rfl, hTk⟩ := qqE hp1
   have hb := hid (hb2.out.trans ((hp2.below (Nat.le_refl _) (fun k e => by cases e)).mono hb2.out.size))
   replace hTk := hid hTk
   clear hp1 hp2 kl
   go_wp2_with fail
   go_ret
   exact ⟨_, _, rfl, hTk.out, hb.out⟩
end Go.Proofs.YtjnfhebbphdchaaGreatDoor
namespace Go.Proofs.YtjnfhebbphdchaaGreatDoor
open Go.RowKit Go.Shelf Go.Tm Go.Lx Go.Maps
attribute [local go_sem] Oper.semAt_some
def showS (t : Go.Tm.T) : ByteArray := if qai t = true then X.strOf (qaS (toksT t)) else ⟨#[63]⟩
theorem qlW (t : Go.Tm.T) (A : Option Addr) (c : Nat) (w : World) (hE : EnvS w) (hz : t.size <= 4194304) (hT : TmV w (· < w.heap.size) t A c) :
   Calls Tryz.prog 26 #[tmV t A c] w fun e w' => e = .returned (.string (showS t)) /\ Below w.heap.size w w' := by
 have hbV : Below w.heap.size w (w.alloc (.cells #[.int .i64 t.kind, .string t.name, .int .i64 t.num, .slice A t.kids.length c] 26)) := qab _ _
 have hbx : (w.alloc (.cells #[.int .i64 t.kind, .string t.name, .int .i64 t.num, .slice A t.kids.length c] 26)).heap[w.heap.size]? = some (.cells #[.int .i64 t.kind, .string t.name, .int .i64 t.num, .slice A t.kids.length c] 26 (0, 0)) := World.alloc_heap_new _ _
 have kt := qqF t A c (w.alloc (.cells #[.int .i64 t.kind, .string t.name, .int .i64 t.num, .slice A t.kids.length c] 26)) (hE.later hbV) hz (hT.later hbV)
 unfold tmV at kt ⊢
 replace kt := hid kt
 replace hbV := hid hbV
 have i0 := qaa _ w.heap.size 0 _ _ _ hbx
 have i1 := qaa _ w.heap.size 1 _ _ _ hbx
 have i2 := qaa _ w.heap.size 2 _ _ _ hbx
 have i3 := qaa _ w.heap.size 3 _ _ _ hbx
 replace hbx := hid hbx
 clear hE hT
 cases hr : qai t with
 | false =>
   have hs : Hid (showT t = []) := by show _ = _; unfold showT; rw [hr]; rfl
   have hS : Hid (showS t = ⟨#[63]⟩) := by show _ = _; unfold showS; rw [hr]; rfl
   rw [hs.out] at kt
   rw [hS.out]
   clear hr
   go_enter Tryz.func26, Tryz.ntmps26
   go_wp2_with fail
   refine kt.out.mono ?_
   rintro e w1 ⟨B, d, rfl, _, hb1⟩
   have hb := hid (hbV.out.trans (hb1.mono hbV.out.size))
   clear hb1 kt
   go_wp2_with fail
   go_ret
   exact ⟨rfl, hb.out⟩
 | true =>
   obtain ⟨hrt, hz2⟩ := qlV hr
   have hs : showT t = toksT t := by unfold showT; rw [hr]; rfl
   have hS : Hid (showS t = X.strOf (Lib.join ((toksT t).map (·.text)) [32])) := by show _ = _; unfold showS; rw [hr]; rfl
   have h1 := (qeu hrt).1
   have h2 := (qeu hrt).2
   have h3 := qpU hrt
   rw [hs] at kt
   rw [hS.out]
   clear hr hs
   have kp := fun (B : Option Addr) (d : Nat) (W : World) (h : X.Toks W W.heap.size B (toksT t)) => X.qoS B (toksT t) d W h (by omega) (by unfold qaS at h3; omega)
   obtain ⟨L, hL⟩ : ∃ n, (toksT t).length = n := ⟨_, rfl⟩
   rw [hL] at kt kp h1 h2
   have hLp : 0 < L := h2
   have q : ((L : Int) == 0) = false := by rw [beq_eq_false_iff_ne]; omega
   replace kp := hid kp
   clear h1 h2 h3 hz2 hL
   go_enter Tryz.func26, Tryz.ntmps26
   go_wp2_with fail
   refine kt.out.mono ?_
   rintro e w1 ⟨B, d, rfl, hTk, hb1⟩
   have hb := hid (hbV.out.trans (hb1.mono hbV.out.size))
   have kp2 := hid (kp.out B d w1 hTk)
   clear hb1 kt hTk kp
   go_wp2_with fail
   refine kp2.out.mono ?_
   rintro e w2 ⟨rfl, hb2⟩
   have hb3 := hid (hb.out.trans (hb2.mono hb.out.size))
   clear hb2 kp2
   go_wp2_with fail
   go_ret
   exact ⟨rfl, hb3.out⟩
end Go.Proofs.YtjnfhebbphdchaaGreatDoor
