/-
  prog.is and prog.fits: whether tokens are as a form has them. Condition: the tokens and the texts can be read.
  prog.add at declarations and at definitions:
  A program as far as it is read, in its box:
  What a form asks of right tokens.
  A piece that begins with 'input'.
  A piece that begins with 'cell'.
  prog.pieces:
-/
import Derived.Test.YtjnfhebbphdchaaGreatDoorLxBase
import Derived.Test.YtjnfhebbphdchaaGreatDoorTmRun
import Derived.Test.YtjnfhebbphdchaaGreatDoorPaSteps
import Derived.Test.YtjnfhebbphdchaaGreatDoorPgMem
import Derived.Test.YtjnfhebbphdchaaGreatDoorPaToks
import Derived.Test.YtjnfhebbphdchaaGreatDoorPgSpec
set_option maxHeartbeats 2000000
set_option maxRecDepth 100000
open Go.Lib (hid)
namespace Go.Proofs.YtjnfhebbphdchaaGreatDoor.Pg
open Go.RowKit Go.Lx
def isB (x : Tok) (f : ByteArray) : Bool := if x.kind = 1 then f.toList == [97, 32, 110, 97, 109, 101] else if x.kind = 2 then f.toList == [97, 32, 110, 117, 109, 98, 101, 114] else f.toList == (X.strOf x.text).toList
def fitsB : List Tok -> List ByteArray -> Bool
 | [], [] => true
 | x :: l, f :: fs => isB x f && fitsB l fs
 | _, _ => false
theorem qjO : ∀ {l : List Tok} {fs : List ByteArray}, fitsB l fs = true -> l.length = fs.length
 | [], [], _ => rfl
 | x :: l, f :: fs, h => by
   rw [fitsB, Bool.and_eq_true] at h
   rw [List.length_cons, List.length_cons, qjO h.2]
theorem qjP : ∀ {l : List Tok} {fs : List ByteArray}, l.length = fs.length -> (∀ j, j < l.length -> isB (l.getD j ⟨0, [], 0⟩) (fs.getD j ⟨#[]⟩) = true) -> fitsB l fs = true
 | [], [], _, _ => rfl
 | x :: l, f :: fs, hl, h => by
   rw [fitsB, Bool.and_eq_true]
   exact ⟨h 0 (by simp), qjP (by simpa using hl) fun j hj => by have := h (j + 1) (by simp; omega); rwa [List.getD_cons_succ, List.getD_cons_succ] at this⟩
theorem qjQ : ∀ {l : List Tok} {fs : List ByteArray} (j : Nat), fitsB l fs = true -> j < l.length -> isB (l.getD j ⟨0, [], 0⟩) (fs.getD j ⟨#[]⟩) = true
 | x :: l, f :: fs, 0, h, _ => by rw [fitsB, Bool.and_eq_true] at h; exact h.1
 | x :: l, f :: fs, j + 1, h, hj => by
   rw [fitsB, Bool.and_eq_true] at h
   rw [List.getD_cons_succ, List.getD_cons_succ]
   exact qjQ j h.2 (by simpa using hj)
theorem qqU {l : List Tok} {fs : List ByteArray} {j : Nat} (hj : j < l.length) (h : isB (l.getD j ⟨0, [], 0⟩) (fs.getD j ⟨#[]⟩) = false) : fitsB l fs = false := by
 cases hf : fitsB l fs with
 | false => rfl
 | true => rw [qjQ j hf hj] at h; cases h
def Txts (w : World) (A : Option Addr) (fs : List ByteArray) : Prop := fs ≠ [] -> ∃ b off, A = some ⟨b, off, none⟩ /\ b < w.heap.size /\ ∀ j, j < fs.length -> w.cell? ⟨b, off + j, none⟩ = some (.string (fs.getD j ⟨#[]⟩))
theorem Txts.later {w w' : World} {A : Option Addr} {fs : List ByteArray} (h : Txts w A fs) (hb : Below w.heap.size w w') : Txts w' A fs := fun hn => by
 obtain ⟨b, off, hA, hlt, hc⟩ := h hn
 exact ⟨b, off, hA, Nat.lt_of_lt_of_le hlt hb.size, fun j hj => (hb.cell (p := ⟨b, off + j, none⟩) hlt).trans (hc j hj)⟩
theorem qtj (k : Int) (s : ByteArray) (n : Int) (f : ByteArray) (w : World) :
   Calls Tryz.prog 160 #[.agg #[.int .i64 k, .string s, .int .i64 n], .string f] w fun e w' => e = .returned (.bool (isB ⟨k, s.data.toList, n⟩ f)) /\ Below w.heap.size w w' := by
 have hb0 := hid (X.qab w (.cells #[.int .i64 k, .string s, .int .i64 n] 118))
 have hx0 := World.alloc_heap_new w (.cells #[.int .i64 k, .string s, .int .i64 n] 118)
 have x0 := qaa _ _ 0 _ _ _ hx0
 have x1 := qaa _ _ 1 _ _ _ hx0
 replace hx0 := hid hx0
 have hq : Hid (∀ b, (if k = 1 then f.toList == [97, 32, 110, 97, 109, 101] else if k = 2 then f.toList == [97, 32, 110, 117, 109, 98, 101, 114] else f.toList == s.toList) = b -> isB ⟨k, s.data.toList, n⟩ f = b) := fun b hb => by
   unfold isB
   rw [X.qbx]; exact hb
 by_cases k1 : k = 1
 . subst k1
   have hr := hid (hq.out _ (by rw [if_pos rfl]))
   clear hq
   go_enter Tryz.func160, Tryz.ntmps160
   go_wp2_with fail
   go_ret
   exact ⟨qae hr.out.symm, hb0.out⟩
 . have e1 : (k == 1) = false := by simpa using k1
   by_cases k2 : k = 2
   . subst k2
     have hr := hid (hq.out _ (by rw [if_neg k1, if_pos rfl]))
     clear hq
     go_enter Tryz.func160, Tryz.ntmps160
     go_wp2_with fail
     go_ret
     exact ⟨qae hr.out.symm, hb0.out⟩
   . have e2 : (k == 2) = false := by simpa using k2
     have hr := hid (hq.out _ (by rw [if_neg k1, if_neg k2]))
     clear hq
     go_enter Tryz.func160, Tryz.ntmps160
     go_wp2_with fail
     go_ret
     exact ⟨qae hr.out.symm, hb0.out⟩
theorem qpi (A : Option Addr) (l : List Tok) (c : Nat) (B : Option Addr) (fs : List ByteArray) (d : Nat) (w : World) (hU : X.Toks w w.heap.size A l) (hT : Txts w B fs) (hl : l.length <= 9223372036854775807) :
   Calls Tryz.prog 159 #[.slice A l.length c, .slice B fs.length d, .func (.func 160) #[] #[]] w fun e w' => e = .returned (.bool (fitsB l fs)) /\ Below w.heap.size w w' := by
 by_cases hlen : l.length = fs.length
 . have g1 : ((l.length : Int) != (fs.length : Int)) = false := by simp [hlen]
   replace hT := hid hT
   replace hU := hid hU
   have hlh := hid hlen
   rw [hlen] at g1 ⊢
   obtain ⟨N, hN⟩ : ∃ N, fs.length = N := ⟨_, rfl⟩
   rw [hN] at g1 ⊢
   replace hN := hid hN
   rw [hN.out] at hlen
   rw [hlen] at hl
   clear hlen
   go_enter Tryz.func159, Tryz.ntmps159
   go_wp2_with fail
   go_loopw [17] (fun i wr => ∃ k : Nat, k <= N /\ i = .int .i64 k /\ Hid (∀ j, j < k -> isB (l.getD j ⟨0, [], 0⟩) (fs.getD j ⟨#[]⟩) = true) /\ Hid (Below w.heap.size w wr)) (fun i _ => N - (intOf i).toNat)
   case atStart => exact ⟨0, Nat.zero_le _, rfl, fun j hj => by omega, Below.refl _ _⟩
   case round =>
     obtain ⟨k, hk, rfl, hok, hB⟩ := hrel
     by_cases hlt : k < N
     . obtain ⟨b, off, rfl, hb, hc⟩ := (hU.out.later hB.out) (by intro e; have h1 := hN.out; have h2 := hlh.out; rw [e] at h2; simp at h2; omega)
       obtain ⟨b2, off2, rfl, hb2, hc2⟩ := (hT.out.later hB.out) (by intro e; have h1 := hN.out; rw [e] at h1; simp at h1; omega)
       obtain ⟨c0, c1, c2⟩ := hc k (by have h1 := hN.out; have h2 := hlh.out; omega)
       have t0 := hc2 k (by have h1 := hN.out; omega)
       clear hc hc2
       have hbox := World.alloc_heap_new wr (.cells #[.int .i64 (l.getD k ⟨0, [], 0⟩).kind, .string (X.strOf (l.getD k ⟨0, [], 0⟩).text), .int .i64 (l.getD k ⟨0, [], 0⟩).num] 118)
       have hb9 : Below w.heap.size w (wr.alloc (.cells #[.int .i64 (l.getD k ⟨0, [], 0⟩).kind, .string (X.strOf (l.getD k ⟨0, [], 0⟩).text), .int .i64 (l.getD k ⟨0, [], 0⟩).num] 118)) := hB.out.alloc hB.out.size _
       have ki := qtj (l.getD k ⟨0, [], 0⟩).kind (X.strOf (l.getD k ⟨0, [], 0⟩).text) (l.getD k ⟨0, [], 0⟩).num (fs.getD k ⟨#[]⟩) (wr.alloc (.cells #[.int .i64 (l.getD k ⟨0, [], 0⟩).kind, .string (X.strOf (l.getD k ⟨0, [], 0⟩).text), .int .i64 (l.getD k ⟨0, [], 0⟩).num] 118))
       have hd : ∀ t : List UInt8, (X.strOf t).data.toList = t := fun t => X.qaP t
       rw [hd] at ki
       have ht0 : (wr.alloc (.cells #[.int .i64 (l.getD k ⟨0, [], 0⟩).kind, .string (X.strOf (l.getD k ⟨0, [], 0⟩).text), .int .i64 (l.getD k ⟨0, [], 0⟩).num] 118)).cell? ⟨b2, off2 + k, none⟩ = some (.string (fs.getD k ⟨#[]⟩)) := ((X.qab wr _).cell (p := ⟨b2, off2 + k, none⟩) hb2).trans t0
       have hlo : ∀ b, isB (l.getD k ⟨0, [], 0⟩) (fs.getD k ⟨#[]⟩) = b -> b = true -> Hid (∀ j, j < k + 1 -> isB (l.getD j ⟨0, [], 0⟩) (fs.getD j ⟨#[]⟩) = true) := fun b hb ht j hj => by
         by_cases e : j < k
         . exact hok.out j e
         . obtain rfl : j = k := by omega
           rw [hb, ht]
       have hno : ∀ b, isB (l.getD k ⟨0, [], 0⟩) (fs.getD k ⟨#[]⟩) = b -> b = false -> fitsB l fs = false := fun b hb ht => qqU (j := k) (by have h1 := hN.out; have h2 := hlh.out; omega) (by rw [hb, ht])
       obtain ⟨r, hr⟩ : ∃ r, isB (l.getD k ⟨0, [], 0⟩) (fs.getD k ⟨#[]⟩) = r := ⟨_, rfl⟩
       have ki2 : Calls Tryz.prog 160 #[.agg #[.int .i64 (l.getD k ⟨0, [], 0⟩).kind, .string (X.strOf (l.getD k ⟨0, [], 0⟩).text), .int .i64 (l.getD k ⟨0, [], 0⟩).num], .string (fs.getD k ⟨#[]⟩)] _ _ := ki
       have ki3 := ki2.mono (fun e w' h => (show e = .returned (.bool r) /\ _ from ⟨by rw [<- hr]; exact h.1, h.2⟩))
       clear ki ki2
       replace hlo := hid (hlo r hr)
       replace hno := hid (hno r hr)
       clear hr hd
       generalize l.getD k ⟨0, [], 0⟩ = q at c0 c1 c2 hbox hb9 ki3 ht0
       generalize fs.getD k ⟨#[]⟩ = ft at t0 ki3 ht0
       obtain ⟨qk, qt, qn⟩ := q
       dsimp only at c0 c1 c2 hbox hb9 ki3 ht0
       have y0 := qaa _ _ 0 _ _ _ hbox
       have y1 := qaa _ _ 1 _ _ _ hbox
       have y2 := qaa _ _ 2 _ _ _ hbox
       replace hb9 := hid hb9
       replace ki3 := hid ki3
       replace hbox := hid hbox
       cases r with
       | true =>
         have hlo2 := hid (hlo.out rfl)
         clear hlo hno
         go_wp2_with fail
         refine ki3.out.mono ?_
         rintro e w9 ⟨rfl, hb8⟩
         replace hb8 := hid hb8
         go_wp2_with fail
         go_roundw
         case rel => exact ⟨k + 1, by omega, by go_num, hlo2.out, hb9.out.trans (hb8.out.mono hb9.out.size)⟩
         case measure => simp [intOf]; omega
       | false =>
         have g3 := hid (hno.out rfl)
         go_wp2_with fail
         refine ki3.out.mono ?_
         rintro e w9 ⟨rfl, hb8⟩
         replace hb8 := hid hb8
         go_wp2_with fail
         go_ret
         exact ⟨qae g3.out.symm, hb9.out.trans (hb8.out.mono hb9.out.size)⟩
     . have g3 : Hid (fitsB l fs = true) := qjP hlh.out fun j hj => hok.out j (by have h1 := hN.out; have h2 := hlh.out; omega)
       go_wp2_with fail
       go_ret
       exact ⟨qae g3.out.symm, hB.out⟩
 . have g1 : ((l.length : Int) != (fs.length : Int)) = true := by rw [bne_iff_ne]; omega
   have hf : Hid (fitsB l fs = false) := Bool.eq_false_iff.2 fun h => hlen (qjO h)
   clear hU hT hlen
   go_enter Tryz.func159, Tryz.ntmps159
   go_wp2_with fail
   go_ret
   exact ⟨qae hf.out.symm, Below.refl _ _⟩
theorem qiL (A : Option Addr) (l : List Tok) (c : Nat) (B : Option Addr) (fs : List ByteArray) (d : Nat) (w : World) (hU : X.Toks w w.heap.size A l) (hT : Txts w B fs) (hl : l.length <= 9223372036854775807) :
   Calls Tryz.prog 131 #[.slice A l.length c, .slice B fs.length d] w fun e w' => e = .returned (.bool (fitsB l fs)) /\ Below w.heap.size w w' := by
 have kf := hid (qpi A l c B fs d w hU hT hl)
 clear hU hT
 obtain ⟨r, hr⟩ : ∃ r, fitsB l fs = r := ⟨_, rfl⟩
 obtain ⟨N, hN⟩ : ∃ N, l.length = N := ⟨_, rfl⟩
 obtain ⟨M, hM⟩ : ∃ N, fs.length = N := ⟨_, rfl⟩
 rw [hr, hN, hM] at kf ⊢
 clear hr hN hM hl
 go_enter Tryz.func131, Tryz.ntmps131
 go_wp2_with fail
 refine kf.out.mono ?_
 rintro e w9 ⟨rfl, hb8⟩
 replace hb8 := hid hb8
 go_wp2_with fail
 go_ret
 exact ⟨rfl, hb8.out⟩
end Go.Proofs.YtjnfhebbphdchaaGreatDoor.Pg
namespace Go.Proofs.YtjnfhebbphdchaaGreatDoor.Pg
open Go.RowKit Go.Shelf
attribute [local go_sem] Oper.semAt_some
theorem qbe {W : World} {base size n : Nat} {e : TypeId} {v : Value} {xs : List Value} (h : W.ownsRow base e size v n xs) : ∃ A c, v = .slice A n c /\ n <= c /\ c <= maxLen := by
 obtain ⟨_, ⟨rfl, rfl⟩ | ⟨g, cap, cur, rfl, _, _, h2, h3, _⟩⟩ := h
 . exact ⟨none, 0, rfl, Nat.le_refl _, Nat.zero_le _⟩
 . exact ⟨_, cap, rfl, h2, h3⟩
theorem qbX {W W' : World} {base size n : Nat} {e : TypeId} {v : Value} {xs : List Value} (h : W.ownsRow base e size v n xs) (hb : Below W.heap.size W W') : W'.ownsRow base e size v n xs := by
 obtain ⟨h1, h2 | ⟨g, cap, cur, hv, hbg, hg, r⟩⟩ := h
 . exact ⟨h1, .inl h2⟩
 . exact ⟨h1, .inr ⟨g, cap, cur, hv, hbg, (hb.block g (Array.getElem?_eq_some_iff.1 hg).1).trans hg, r⟩⟩
theorem qpj {W : World} {base size n : Nat} {e : TypeId} {v : Value} {xs : List Value} (h : W.ownsRow base e size v n xs) (k : Nat) (hk : v.ownBlock = some k) : base <= k := by
 obtain ⟨_, ⟨rfl, _⟩ | ⟨g, cap, cur, rfl, hbg, _⟩⟩ := h
 . cases hk
 . cases hk; exact hbg
theorem qhn : (Tryz.prog.info? 67).map (fun i => (i.zero, i.size, i.bytes)) = some (some (.agg #[.string ⟨#[]⟩, .string ⟨#[]⟩, .int .i64 0]), 3, 40) := by kernel_rfl
theorem qmj : (Tryz.prog.info? 60).map (fun i => (i.zero, i.size, i.bytes)) = some (some (.agg #[.string ⟨#[]⟩, .int .i64 0, .string ⟨#[]⟩, .int .i64 0, .slice none 0 0]), 5, 72) := by kernel_rfl
def Added (bm fi : Nat) (e : TypeId) (size : Nat) (v : Value) (n : Nat) (xs news : List Value) (w w' : World) : Prop :=
 ∃ w6 w7 v', Below w.heap.size w w6 /\ w6.grownBy w7 v.ownBlock /\ w7.ownsRow (bm + 1) e size v' (n + 1) (xs ++ news) /\ (v'.ownBlock = v.ownBlock ∨ v'.ownBlock = some w6.heap.size) /\ w' = w7.setCell ⟨bm, fi, none⟩ v'
theorem qpk (bm fi : Nat) (A0 : Option Addr) (c0 : Nat) (nm lb : ByteArray) (z : Int) (w : World) (hf : w.cell? ⟨bm, fi, none⟩ = some (.slice A0 32 c0)) (hbm : bm < w.heap.size) :
   Calls Tryz.prog 132 #[.pointer (some ⟨bm, fi, none⟩), .agg #[.string nm, .string lb, .int .i64 z]] w fun e w' => e = .returned (.int .i64 1) /\ Below w.heap.size w w' := by
 have hb0 := X.qab w (.cells #[.string nm, .string lb, .int .i64 z] 67)
 have q0 : (w.alloc (.cells #[.string nm, .string lb, .int .i64 z] 67)).cell? ⟨bm, fi, none⟩ = some (.slice A0 32 c0) := (hb0.cell (p := ⟨bm, fi, none⟩) hbm).trans hf
 replace hb0 := hid hb0
 clear hf hbm
 go_enter Tryz.func132, Tryz.ntmps132
 go_wp2_with fail
 go_ret
 exact ⟨rfl, hb0.out⟩
theorem qmk (bm fi n : Nat) (A0 : Option Addr) (c0 : Nat) (xs : List Value) (nm lb : ByteArray) (z : Int) (w : World) (hf : w.cell? ⟨bm, fi, none⟩ = some (.slice A0 n c0)) (hfz : w.frozen? ⟨bm, fi, none⟩ = false) (hown : w.ownsRow (bm + 1) 67 3 (.slice A0 n c0) n xs) (hn : n < 32) (hbm : bm < w.heap.size) :
   Calls Tryz.prog 132 #[.pointer (some ⟨bm, fi, none⟩), .agg #[.string nm, .string lb, .int .i64 z]] w fun e w' => e = .returned (.int .i64 0) /\ Added bm fi 67 3 (.slice A0 n c0) n xs [.string nm, .string lb, .int .i64 z] w w' := by
 obtain ⟨i0, hi, hi2⟩ := Option.map_eq_some_iff.1 qhn
 obtain ⟨hz0, hz1, hz2⟩ : i0.zero = some (.agg #[.string ⟨#[]⟩, .string ⟨#[]⟩, .int .i64 0]) /\ i0.size = 3 /\ i0.bytes = 40 := by
   injection hi2 with h1 h2; injection h2 with h2 h3; exact ⟨h1, h2, h3⟩
 clear hi2
 have hb0 := X.qab w (.cells #[.string nm, .string lb, .int .i64 z] 67)
 have hx0 := World.alloc_heap_new w (.cells #[.string nm, .string lb, .int .i64 z] 67)
 obtain ⟨W1, hW1⟩ : ∃ W, w.alloc (.cells #[.string nm, .string lb, .int .i64 z] 67) = W := ⟨_, rfl⟩
 rw [hW1] at hb0 hx0
 have hsz1 : W1.heap.size = w.heap.size + 1 := by rw [<- hW1]; simp
 have q0 : W1.cell? ⟨bm, fi, none⟩ = some (.slice A0 n c0) := (hb0.cell (p := ⟨bm, fi, none⟩) hbm).trans hf
 have x0 : W1.cell? ⟨w.heap.size, 0, none⟩ = some (.string nm) := qaa _ _ 0 _ _ _ hx0
 have x1 : W1.cell? ⟨w.heap.size, 1, none⟩ = some (.string lb) := qaa _ _ 1 _ _ _ hx0
 have x2 : W1.cell? ⟨w.heap.size, 2, none⟩ = some (.int .i64 z) := qaa _ _ 2 _ _ _ hx0
 have hb1 : Below w.heap.size w W1.drew := hb0.drew
 have hb2 := hb1.trans ((X.qab W1.drew (.cells #[.string nm, .string lb, .int .i64 z] 67)).mono (show w.heap.size <= W1.drew.heap.size from hb1.size))
 have hx2 := World.alloc_heap_new W1.drew (.cells #[.string nm, .string lb, .int .i64 z] 67)
 obtain ⟨W2, hW2⟩ : ∃ W, W1.drew.alloc (.cells #[.string nm, .string lb, .int .i64 z] 67) = W := ⟨_, rfl⟩
 rw [hW2] at hb2 hx2
 have hsz2 : W2.heap.size = w.heap.size + 2 := by rw [<- hW2, World.size_alloc]; show W1.heap.size + 1 = _; omega
 have y0 : W2.cell? ⟨w.heap.size, 0, none⟩ = some (.string nm) := by rw [<- hW2]; exact ((X.qab W1.drew _).cell (p := ⟨w.heap.size, 0, none⟩) (show w.heap.size < W1.heap.size by omega)).trans x0
 have y1 : W2.cell? ⟨w.heap.size, 1, none⟩ = some (.string lb) := by rw [<- hW2]; exact ((X.qab W1.drew _).cell (p := ⟨w.heap.size, 1, none⟩) (show w.heap.size < W1.heap.size by omega)).trans x1
 have y2 : W2.cell? ⟨w.heap.size, 2, none⟩ = some (.int .i64 z) := by rw [<- hW2]; exact ((X.qab W1.drew _).cell (p := ⟨w.heap.size, 2, none⟩) (show w.heap.size < W1.heap.size by omega)).trans x2
 have q2 : W2.cell? ⟨bm, fi, none⟩ = some (.slice A0 n c0) := (hb2.cell (p := ⟨bm, fi, none⟩) hbm).trans hf
 have hown2 := hid (qbX hown hb2)
 have kend := hid (fun (v7 : Value) (w7 : World) (ho : w7.ownsRow (bm + 1) 67 3 v7 (n + 1) (xs ++ [.string nm, .string lb, .int .i64 z])) (hg : W2.grownBy w7 (Value.slice A0 n c0).ownBlock) (hat : v7.ownBlock = (Value.slice A0 n c0).ownBlock ∨ v7.ownBlock = some W2.heap.size) => (show Added bm fi 67 3 (.slice A0 n c0) n xs [.string nm, .string lb, .int .i64 z] w (w7.setCell ⟨bm, fi, none⟩ v7) from ⟨W2, w7, v7, hb2, hg, ho, hat, rfl⟩))
 have kblk := hid (fun (w7 : World) (hg : W2.grownBy w7 (Value.slice A0 n c0).ownBlock) => (show w7.heap[bm]? = w.heap[bm]? from (hg.block bm (by omega) (fun e => by have := qpj hown bm e.symm; omega)).trans (hb2.block bm hbm)))
 have hcell := hid hf
 have hfr := hid hfz
 replace hb0 := hid hb0
 replace hb1 := hid hb1
 replace hb2 := hid hb2
 replace hx0 := hid hx0
 replace hx2 := hid hx2
 replace hi := hid hi
 replace hz0 := hid hz0
 replace hz1 := hid hz1
 replace hz2 := hid hz2
 have hbz : Hid (bm + 1 <= W2.heap.size) := by show _ <= _; omega
 have hne : ((n : Int) == 32) = false := beq_eq_false_iff_ne.2 (by omega)
 replace hsz1 := hid hsz1
 replace hsz2 := hid hsz2
 clear hf hfz hown
 go_enter Tryz.func132, Tryz.ntmps132
 go_wp2_with fail
 replace hW1 := hid hW1
 go_region_law (first
   | (refine qaO rfl (.tmp 13) (.tmp 15) 22 rfl (bm + 1) 67 i0 (.agg #[.string ⟨#[]⟩, .string ⟨#[]⟩, .int .i64 0]) 3 40 Tryz.underlying22 hi.out hz0.out hz1.out hz2.out rfl (by decide) (.slice A0 n c0) n xs (by go_simp) hown2.out ⟨W1.heap.size, 0, none⟩ 1 1 [.string nm, .string lb, .int .i64 z] (by go_simp) rfl ?cc (fun u hu => by simp at hu; rcases hu with rfl | rfl | rfl <;> rfl) (by unfold maxLen; omega) (by omega) hbz.out ?_
      case cc =>
        intro j u hj
        match j, hj with
        | 0, hj => cases hj; exact qaa _ _ 0 _ _ _ hx2.out
        | 1, hj => cases hj; exact qaa _ _ 1 _ _ _ hx2.out
        | 2, hj => cases hj; exact qaa _ _ 2 _ _ _ hx2.out
        | j + 3, hj => simp at hj
      intro v7 w7 ho7 hg7 hat7
      have hend := kend.out v7 w7 ho7 hg7 hat7
      have hbl := kblk.out w7 hg7
      have q7 : w7.cell? ⟨bm, fi, none⟩ = some (.slice A0 n c0) := (World.cell?_of_block (a := ⟨bm, fi, none⟩) hbl).trans hcell.out
      have f7 : w7.frozen? ⟨bm, fi, none⟩ = false := (World.frozen?_of_block (a := ⟨bm, fi, none⟩) hbl).trans hfr.out
      obtain ⟨A7, c7, rfl, _, _⟩ := qbe ho7
      replace hend := hid hend
      clear ho7 hg7 hat7 hbl)
   | fail)
 all_goals
   go_wp2_with fail
   go_ret
   exact ⟨rfl, hend.out⟩
theorem qss (bm fi : Nat) (A0 : Option Addr) (c0 : Nat) (nm : ByteArray) (k : Int) (s : ByteArray) (z : Int) (TA : Option Addr) (tn tc : Nat) (w : World) (hf : w.cell? ⟨bm, fi, none⟩ = some (.slice A0 32 c0)) (hbm : bm < w.heap.size) :
   Calls Tryz.prog 133 #[.pointer (some ⟨bm, fi, none⟩), .agg #[.string nm, .int .i64 k, .string s, .int .i64 z, .slice TA tn tc]] w fun e w' => e = .returned (.int .i64 1) /\ Below w.heap.size w w' := by
 have hb0 := X.qab w (.cells #[.string nm, .int .i64 k, .string s, .int .i64 z, .slice TA tn tc] 60)
 have q0 : (w.alloc (.cells #[.string nm, .int .i64 k, .string s, .int .i64 z, .slice TA tn tc] 60)).cell? ⟨bm, fi, none⟩ = some (.slice A0 32 c0) := (hb0.cell (p := ⟨bm, fi, none⟩) hbm).trans hf
 replace hb0 := hid hb0
 clear hf hbm
 go_enter Tryz.func133, Tryz.ntmps133
 go_wp2_with fail
 go_ret
 exact ⟨rfl, hb0.out⟩
theorem qqV (bm fi n : Nat) (A0 : Option Addr) (c0 : Nat) (xs : List Value) (nm : ByteArray) (k : Int) (s : ByteArray) (z : Int) (TA : Option Addr) (tn tc : Nat) (w : World) (hf : w.cell? ⟨bm, fi, none⟩ = some (.slice A0 n c0)) (hfz : w.frozen? ⟨bm, fi, none⟩ = false) (hown : w.ownsRow (bm + 1) 60 5 (.slice A0 n c0) n xs) (hn : n < 32) (hbm : bm < w.heap.size) :
   Calls Tryz.prog 133 #[.pointer (some ⟨bm, fi, none⟩), .agg #[.string nm, .int .i64 k, .string s, .int .i64 z, .slice TA tn tc]] w fun e w' => e = .returned (.int .i64 0) /\ Added bm fi 60 5 (.slice A0 n c0) n xs [.string nm, .int .i64 k, .string s, .int .i64 z, .slice TA tn tc] w w' := by
 obtain ⟨i0, hi, hi2⟩ := Option.map_eq_some_iff.1 qmj
 obtain ⟨hz0, hz1, hz2⟩ : i0.zero = some (.agg #[.string ⟨#[]⟩, .int .i64 0, .string ⟨#[]⟩, .int .i64 0, .slice none 0 0]) /\ i0.size = 5 /\ i0.bytes = 72 := by
   injection hi2 with h1 h2; injection h2 with h2 h3; exact ⟨h1, h2, h3⟩
 clear hi2
 have hb0 := X.qab w (.cells #[.string nm, .int .i64 k, .string s, .int .i64 z, .slice TA tn tc] 60)
 have hx0 := World.alloc_heap_new w (.cells #[.string nm, .int .i64 k, .string s, .int .i64 z, .slice TA tn tc] 60)
 obtain ⟨W1, hW1⟩ : ∃ W, w.alloc (.cells #[.string nm, .int .i64 k, .string s, .int .i64 z, .slice TA tn tc] 60) = W := ⟨_, rfl⟩
 rw [hW1] at hb0 hx0
 have hsz1 : W1.heap.size = w.heap.size + 1 := by rw [<- hW1]; simp
 have q0 : W1.cell? ⟨bm, fi, none⟩ = some (.slice A0 n c0) := (hb0.cell (p := ⟨bm, fi, none⟩) hbm).trans hf
 have x0 : W1.cell? ⟨w.heap.size, 0, none⟩ = some (.string nm) := qaa _ _ 0 _ _ _ hx0
 have x1 : W1.cell? ⟨w.heap.size, 1, none⟩ = some (.int .i64 k) := qaa _ _ 1 _ _ _ hx0
 have x2 : W1.cell? ⟨w.heap.size, 2, none⟩ = some (.string s) := qaa _ _ 2 _ _ _ hx0
 have x3 : W1.cell? ⟨w.heap.size, 3, none⟩ = some (.int .i64 z) := qaa _ _ 3 _ _ _ hx0
 have x4 : W1.cell? ⟨w.heap.size, 4, none⟩ = some (.slice TA tn tc) := qaa _ _ 4 _ _ _ hx0
 have hb1 : Below w.heap.size w W1.drew := hb0.drew
 have hb2 := hb1.trans ((X.qab W1.drew (.cells #[.string nm, .int .i64 k, .string s, .int .i64 z, .slice TA tn tc] 60)).mono (show w.heap.size <= W1.drew.heap.size from hb1.size))
 have hx2 := World.alloc_heap_new W1.drew (.cells #[.string nm, .int .i64 k, .string s, .int .i64 z, .slice TA tn tc] 60)
 obtain ⟨W2, hW2⟩ : ∃ W, W1.drew.alloc (.cells #[.string nm, .int .i64 k, .string s, .int .i64 z, .slice TA tn tc] 60) = W := ⟨_, rfl⟩
 rw [hW2] at hb2 hx2
 have hsz2 : W2.heap.size = w.heap.size + 2 := by rw [<- hW2, World.size_alloc]; show W1.heap.size + 1 = _; omega
 have y0 : W2.cell? ⟨w.heap.size, 0, none⟩ = some (.string nm) := by rw [<- hW2]; exact ((X.qab W1.drew _).cell (p := ⟨w.heap.size, 0, none⟩) (show w.heap.size < W1.heap.size by omega)).trans x0
 have y1 : W2.cell? ⟨w.heap.size, 1, none⟩ = some (.int .i64 k) := by rw [<- hW2]; exact ((X.qab W1.drew _).cell (p := ⟨w.heap.size, 1, none⟩) (show w.heap.size < W1.heap.size by omega)).trans x1
 have y2 : W2.cell? ⟨w.heap.size, 2, none⟩ = some (.string s) := by rw [<- hW2]; exact ((X.qab W1.drew _).cell (p := ⟨w.heap.size, 2, none⟩) (show w.heap.size < W1.heap.size by omega)).trans x2
 have y3 : W2.cell? ⟨w.heap.size, 3, none⟩ = some (.int .i64 z) := by rw [<- hW2]; exact ((X.qab W1.drew _).cell (p := ⟨w.heap.size, 3, none⟩) (show w.heap.size < W1.heap.size by omega)).trans x3
 have y4 : W2.cell? ⟨w.heap.size, 4, none⟩ = some (.slice TA tn tc) := by rw [<- hW2]; exact ((X.qab W1.drew _).cell (p := ⟨w.heap.size, 4, none⟩) (show w.heap.size < W1.heap.size by omega)).trans x4
 have q2 : W2.cell? ⟨bm, fi, none⟩ = some (.slice A0 n c0) := (hb2.cell (p := ⟨bm, fi, none⟩) hbm).trans hf
 have hown2 := hid (qbX hown hb2)
 have kend := hid (fun (v7 : Value) (w7 : World) (ho : w7.ownsRow (bm + 1) 60 5 v7 (n + 1) (xs ++ [.string nm, .int .i64 k, .string s, .int .i64 z, .slice TA tn tc])) (hg : W2.grownBy w7 (Value.slice A0 n c0).ownBlock) (hat : v7.ownBlock = (Value.slice A0 n c0).ownBlock ∨ v7.ownBlock = some W2.heap.size) => (show Added bm fi 60 5 (.slice A0 n c0) n xs [.string nm, .int .i64 k, .string s, .int .i64 z, .slice TA tn tc] w (w7.setCell ⟨bm, fi, none⟩ v7) from ⟨W2, w7, v7, hb2, hg, ho, hat, rfl⟩))
 have kblk := hid (fun (w7 : World) (hg : W2.grownBy w7 (Value.slice A0 n c0).ownBlock) => (show w7.heap[bm]? = w.heap[bm]? from (hg.block bm (by omega) (fun e => by have := qpj hown bm e.symm; omega)).trans (hb2.block bm hbm)))
 have hcell := hid hf
 have hfr := hid hfz
 replace hb0 := hid hb0
 replace hb1 := hid hb1
 replace hb2 := hid hb2
 replace hx0 := hid hx0
 replace hx2 := hid hx2
 replace hi := hid hi
 replace hz0 := hid hz0
 replace hz1 := hid hz1
 replace hz2 := hid hz2
 have hbz : Hid (bm + 1 <= W2.heap.size) := by show _ <= _; omega
 have hne : ((n : Int) == 32) = false := beq_eq_false_iff_ne.2 (by omega)
 replace hsz1 := hid hsz1
 replace hsz2 := hid hsz2
 clear hf hfz hown
 go_enter Tryz.func133, Tryz.ntmps133
 go_wp2_with fail
 replace hW1 := hid hW1
 go_region_law (first
   | (refine qaO rfl (.tmp 13) (.tmp 15) 23 rfl (bm + 1) 60 i0 (.agg #[.string ⟨#[]⟩, .int .i64 0, .string ⟨#[]⟩, .int .i64 0, .slice none 0 0]) 5 72 Tryz.underlying23 hi.out hz0.out hz1.out hz2.out rfl (by decide) (.slice A0 n c0) n xs (by go_simp) hown2.out ⟨W1.heap.size, 0, none⟩ 1 1 [.string nm, .int .i64 k, .string s, .int .i64 z, .slice TA tn tc] (by go_simp) rfl ?cc (fun u hu => by simp at hu; rcases hu with rfl | rfl | rfl | rfl | rfl <;> rfl) (by unfold maxLen; omega) (by omega) hbz.out ?_
      case cc =>
        intro j u hj
        match j, hj with
        | 0, hj => cases hj; exact qaa _ _ 0 _ _ _ hx2.out
        | 1, hj => cases hj; exact qaa _ _ 1 _ _ _ hx2.out
        | 2, hj => cases hj; exact qaa _ _ 2 _ _ _ hx2.out
        | 3, hj => cases hj; exact qaa _ _ 3 _ _ _ hx2.out
        | 4, hj => cases hj; exact qaa _ _ 4 _ _ _ hx2.out
        | j + 5, hj => simp at hj
      intro v7 w7 ho7 hg7 hat7
      have hend := kend.out v7 w7 ho7 hg7 hat7
      have hbl := kblk.out w7 hg7
      have q7 : w7.cell? ⟨bm, fi, none⟩ = some (.slice A0 n c0) := (World.cell?_of_block (a := ⟨bm, fi, none⟩) hbl).trans hcell.out
      have f7 : w7.frozen? ⟨bm, fi, none⟩ = false := (World.frozen?_of_block (a := ⟨bm, fi, none⟩) hbl).trans hfr.out
      obtain ⟨A7, c7, rfl, _, _⟩ := qbe ho7
      replace hend := hid hend
      clear ho7 hg7 hat7 hbl)
   | fail)
 all_goals
   go_wp2_with fail
   go_ret
   exact ⟨rfl, hend.out⟩
end Go.Proofs.YtjnfhebbphdchaaGreatDoor.Pg
namespace Go.Proofs.YtjnfhebbphdchaaGreatDoor.Pg
open Go.RowKit Go.Shelf Go.Tm Go.Lx Go.Maps Go.Proofs.YtjnfhebbphdchaaGreatDoor.Pa
def declC (d : D) : List Value := [.string d.name, .string d.label, .int .i64 d.n]
abbrev FV : Type := Df × Option Addr × Nat
def defC (x : FV) : List Value := [.string x.1.name, .int .i64 x.1.t.kind, .string x.1.t.name, .int .i64 x.1.t.num, .slice x.2.1 x.1.t.kids.length x.2.2]
def FarB (W : World) (bm : Nat) (I C F : Value) (k : Nat) : Prop := bm < k /\ k < W.heap.size /\ I.ownBlock ≠ some k /\ C.ownBlock ≠ some k /\ F.ownBlock ≠ some k
structure DrT (ty : TypeId) (N : Nat) (W : World) (bm : Nat) (p : P) (I C F : Value) (xs : List FV) : Prop where
 box : W.heap[bm]? = some (.cells #[I, C, F, .int .i64 0, .string ⟨#[]⟩, .int .i64 0, .slice none 0 0] ty (0, 0))
 oi : W.ownsRow (bm + 1) 67 3 I p.ins.length (p.ins.flatMap declC)
 oc : W.ownsRow (bm + 1) 67 3 C p.cells.length (p.cells.flatMap declC)
 of_ : W.ownsRow (bm + 1) 60 5 F p.defs.length (xs.flatMap defC)
 fs : xs.map (·.1) = p.defs
 kids : ∀ x ∈ xs, TmV W (FarB W bm I C F) x.1.t x.2.1 x.2.2
 ic : ∀ k, I.ownBlock = some k -> C.ownBlock ≠ some k /\ F.ownBlock ≠ some k
 cf : ∀ k, C.ownBlock = some k -> F.ownBlock ≠ some k
 si : ∀ d ∈ p.ins, d.name.size <= 9223372036854775807 /\ d.label.size <= 9223372036854775807
 sc : ∀ d ∈ p.cells, d.name.size <= 9223372036854775807 /\ d.label.size <= 9223372036854775807
 sf : ∀ d ∈ p.defs, d.name.size <= 9223372036854775807
 li : p.ins.length <= N
 lc : p.cells.length <= N
 ld : p.defs.length <= N
 bd : p.body = T0
abbrev Dr (W : World) (bm : Nat) (p : P) (I C F : Value) (xs : List FV) : Prop := DrT 74 32 W bm p I C F xs
def DrTE (ty : TypeId) (N : Nat) (W : World) (bm : Nat) (p : P) : Prop := ∃ I C F xs, DrT ty N W bm p I C F xs
abbrev DrE (W : World) (bm : Nat) (p : P) : Prop := DrTE 74 32 W bm p
theorem DrT.lt {ty : TypeId} {N : Nat} {W : World} {bm : Nat} {p : P} {I C F : Value} {xs : List FV} (h : DrT ty N W bm p I C F xs) : bm < W.heap.size := World.lt_of_get h.box
theorem qaU {W : World} {base size n : Nat} {e : TypeId} {v : Value} {xs : List Value} (h : W.ownsRow base e size v n xs) {k : Nat} (hk : v.ownBlock = some k) : base <= k /\ k < W.heap.size := by
 obtain ⟨cur, h1, h2⟩ := YtjnfhebbphdchaaGreatDoor.qcc h hk
 exact ⟨h2, World.lt_of_get h1⟩
theorem DrT.later {ty : TypeId} {N : Nat} {W W' : World} {bm : Nat} {p : P} {I C F : Value} {xs : List FV} (h : DrT ty N W bm p I C F xs) (hb : Below W.heap.size W W') : DrT ty N W' bm p I C F xs where
 box := (hb.block bm h.lt).trans h.box
 oi := qbX h.oi hb
 oc := qbX h.oc hb
 of_ := qbX h.of_ hb
 fs := h.fs
 kids x hx := (h.kids x hx).kept (fun _ hk => ⟨hk.1, Nat.lt_of_lt_of_le hk.2.1 hb.size, hk.2.2⟩) (fun k hk => hb.block k hk.2.1)
 ic := h.ic
 cf := h.cf
 si := h.si
 sc := h.sc
 sf := h.sf
 li := h.li
 lc := h.lc
 ld := h.ld
 bd := h.bd
theorem DrT.new (ty : TypeId) (N : Nat) (w : World) : DrT ty N (w.alloc (.cells #[.slice none 0 0, .slice none 0 0, .slice none 0 0, .int .i64 0, .string ⟨#[]⟩, .int .i64 0, .slice none 0 0] ty)) w.heap.size P0 (.slice none 0 0) (.slice none 0 0) (.slice none 0 0) [] where
 box := World.alloc_heap_new w _
 oi := World.ownsRow_nil _ _ _ _
 oc := World.ownsRow_nil _ _ _ _
 of_ := World.ownsRow_nil _ _ _ _
 fs := rfl
 kids := fun _ h => by cases h
 ic := fun _ h => by cases h
 cf := fun _ h => by cases h
 si := fun _ h => by cases h
 sc := fun _ h => by cases h
 sf := fun _ h => by cases h
 li := Nat.zero_le _
 lc := Nat.zero_le _
 ld := Nat.zero_le _
 bd := rfl
theorem Dr.new (w : World) : Dr (w.alloc (.cells #[.slice none 0 0, .slice none 0 0, .slice none 0 0, .int .i64 0, .string ⟨#[]⟩, .int .i64 0, .slice none 0 0] 74)) w.heap.size P0 (.slice none 0 0) (.slice none 0 0) (.slice none 0 0) [] := DrT.new _ _ w
theorem qbg {w w6 w7 : World} {bm fi : Nat} {v v' : Value} (h6 : Below w.heap.size w w6) (hg : w6.grownBy w7 v.ownBlock) {k : Nat} (hk : k < w.heap.size) (hb : k ≠ bm) (hv : v.ownBlock ≠ some k) : (w7.setCell ⟨bm, fi, none⟩ v').heap[k]? = w.heap[k]? :=
 (Below.heap_setCell _ _ _ _ hb).trans ((hg.block k (Nat.lt_of_lt_of_le hk h6.size) (fun e => hv e.symm)).trans (h6.block k hk))
theorem qfA {w w6 w7 : World} {bm fi : Nat} {v v' : Value} (h6 : Below w.heap.size w w6) (hg : w6.grownBy w7 v.ownBlock) : w.heap.size <= (w7.setCell ⟨bm, fi, none⟩ v').heap.size := by
 have := h6.size
 have := hg.size
 simp; omega
theorem qel {w w6 w7 : World} {bm fi : Nat} {v v' : Value} (hb : bm <= w.heap.size) (hv : ∀ k, v.ownBlock = some k -> bm < k) (h6 : Below w.heap.size w w6) (hg : w6.grownBy w7 v.ownBlock) : Below bm w (w7.setCell ⟨bm, fi, none⟩ v') :=
 (((h6.mono hb).grown hg (by have := h6.size; omega) (fun k e => Nat.le_of_lt (hv k e))).setCell (p := ⟨bm, fi, none⟩) (Nat.le_refl _) _)
theorem qcW {w w6 w7 : World} {base size n : Nat} {e : TypeId} {v v' : Value} {xs : List Value} (h6 : Below w.heap.size w w6) (_ : w7.ownsRow base e size v' n xs) (hat : v'.ownBlock = v.ownBlock ∨ v'.ownBlock = some w6.heap.size) {k : Nat} (hk : k < w.heap.size) (hv : v.ownBlock ≠ some k) : v'.ownBlock ≠ some k := by
 rcases hat with h | h
 . rw [h]; exact hv
 . rw [h]; intro e; injection e with e; have := h6.size; omega
def qch (w w' : World) : Prop := ∀ (k : Nat) (es : Array MapEntry) (cl : Nat), w.heap[k]? = some (Obj.map es cl) -> w'.heap[k]? = some (Obj.map es cl)
theorem mk_of {w w' : World} (h : Below w.heap.size w w') : qch w w' := fun k _ _ hk => (h.block k (World.lt_of_get hk)).trans hk
theorem qch.trans {a b c : World} (h : qch a b) (g : qch b c) : qch a c := fun k es cl hk => g k es cl (h k es cl hk)
theorem qfB {w w' : World} {bm fi size n : Nat} {e t : TypeId} {v : Value} {xs news : List Value} {cs : Array Value} {f : Nat × Nat} (ha : Added bm fi e size v n xs news w w') (hbx : w.heap[bm]? = some (.cells cs t f)) (ho : w.ownsRow (bm + 1) e size v n xs) : qch w w' := fun k es cl hk => by
 obtain ⟨w6, w7, v', h6, hg, _, _, rfl⟩ := ha
 refine (qbg h6 hg (World.lt_of_get hk) (fun e => by rw [e, hbx] at hk; cases hk) (fun e => ?_)).trans hk
 obtain ⟨cur, h1, _⟩ := YtjnfhebbphdchaaGreatDoor.qcc ho e
 rw [h1] at hk; cases hk
theorem DrT.addI {ty : TypeId} {N : Nat} {w w' : World} {bm : Nat} {p : P} {I C F : Value} {xs : List FV} {d : D} (h : DrT ty N w bm p I C F xs) (hl : p.ins.length < N) (hs : d.name.size <= 9223372036854775807 /\ d.label.size <= 9223372036854775807)
   (ha : Added bm 0 67 3 I p.ins.length (p.ins.flatMap declC) (declC d) w w') : DrTE ty N w' bm { p with ins := p.ins ++ [d] } /\ Below bm w w' /\ qch w w' := by
 have hmk := qfB ha h.box h.oi
 obtain ⟨w6, w7, v', h6, hg, ho, hat, rfl⟩ := ha
 have hlt := h.lt
 have hI : ∀ k, I.ownBlock = some k -> bm + 1 <= k /\ k < w.heap.size := fun k hk => qaU h.oi hk
 have hC : ∀ k, C.ownBlock = some k -> bm + 1 <= k /\ k < w.heap.size := fun k hk => qaU h.oc hk
 have hF : ∀ k, F.ownBlock = some k -> bm + 1 <= k /\ k < w.heap.size := fun k hk => qaU h.of_ hk
 have hbx : w7.heap[bm]? = some (.cells #[I, C, F, .int .i64 0, .string ⟨#[]⟩, .int .i64 0, .slice none 0 0] ty (0, 0)) :=
   ((hg.block bm (Nat.lt_of_lt_of_le hlt h6.size) (fun e => by have := hI bm e.symm; omega)).trans (h6.block bm hlt)).trans h.box
 refine ⟨⟨v', C, F, xs, ?_⟩, qel (Nat.le_of_lt hlt) (fun k hk => (hI k hk).1) h6 hg, hmk⟩
 exact {
   box := heap_setCell_same w7 bm 0 _ _ v' hbx
   oi := by
     have := ownsRow_setCell_below ho (a := ⟨bm, 0, none⟩) (Nat.lt_succ_self bm) v'
     simpa [List.flatMap_append] using this
   oc := qal h.oc fun g hg2 => qbg h6 hg (hC g hg2).2 (by have := (hC g hg2).1; omega) (fun e => (h.ic g e).1 hg2)
   of_ := qal h.of_ fun g hg2 => qbg h6 hg (hF g hg2).2 (by have := (hF g hg2).1; omega) (fun e => (h.ic g e).2 hg2)
   fs := h.fs
   kids := fun x hx => (h.kids x hx).kept (fun k hk => ⟨hk.1, Nat.lt_of_lt_of_le hk.2.1 (qfA h6 hg), qcW h6 ho hat hk.2.1 hk.2.2.1, hk.2.2.2⟩) (fun k hk => qbg h6 hg hk.2.1 (by have := hk.1; omega) hk.2.2.1)
   ic := fun k hk => by
     rcases hat with e | e
     . rw [e] at hk; exact h.ic k hk
     . rw [e] at hk
       injection hk with hk
       have := h6.size
       exact ⟨fun e2 => by have := (hC k e2).2; omega, fun e2 => by have := (hF k e2).2; omega⟩
   cf := h.cf
   si := fun x hx => by
     rcases List.mem_append.1 hx with hx | hx
     . exact h.si x hx
     . rw [List.mem_singleton.1 hx]; exact hs
   sc := h.sc
   sf := h.sf
   li := by show (p.ins ++ [d]).length <= N; rw [List.length_append, List.length_singleton]; omega
   lc := h.lc
   ld := h.ld
   bd := h.bd }
theorem DrT.addC {ty : TypeId} {N : Nat} {w w' : World} {bm : Nat} {p : P} {I C F : Value} {xs : List FV} {d : D} (h : DrT ty N w bm p I C F xs) (hl : p.cells.length < N) (hs : d.name.size <= 9223372036854775807 /\ d.label.size <= 9223372036854775807)
   (ha : Added bm 1 67 3 C p.cells.length (p.cells.flatMap declC) (declC d) w w') : DrTE ty N w' bm { p with cells := p.cells ++ [d] } /\ Below bm w w' /\ qch w w' := by
 have hmk := qfB ha h.box h.oc
 obtain ⟨w6, w7, v', h6, hg, ho, hat, rfl⟩ := ha
 have hlt := h.lt
 have hI : ∀ k, I.ownBlock = some k -> bm + 1 <= k /\ k < w.heap.size := fun k hk => qaU h.oi hk
 have hC : ∀ k, C.ownBlock = some k -> bm + 1 <= k /\ k < w.heap.size := fun k hk => qaU h.oc hk
 have hF : ∀ k, F.ownBlock = some k -> bm + 1 <= k /\ k < w.heap.size := fun k hk => qaU h.of_ hk
 have hbx : w7.heap[bm]? = some (.cells #[I, C, F, .int .i64 0, .string ⟨#[]⟩, .int .i64 0, .slice none 0 0] ty (0, 0)) :=
   ((hg.block bm (Nat.lt_of_lt_of_le hlt h6.size) (fun e => by have := hC bm e.symm; omega)).trans (h6.block bm hlt)).trans h.box
 refine ⟨⟨I, v', F, xs, ?_⟩, qel (Nat.le_of_lt hlt) (fun k hk => (hC k hk).1) h6 hg, hmk⟩
 exact {
   box := heap_setCell_same w7 bm 1 _ _ v' hbx
   oi := qal h.oi fun g hg2 => qbg h6 hg (hI g hg2).2 (by have := (hI g hg2).1; omega) (fun e => (h.ic g hg2).1 e)
   oc := by
     have := ownsRow_setCell_below ho (a := ⟨bm, 1, none⟩) (Nat.lt_succ_self bm) v'
     simpa [List.flatMap_append] using this
   of_ := qal h.of_ fun g hg2 => qbg h6 hg (hF g hg2).2 (by have := (hF g hg2).1; omega) (fun e => (h.cf g e) hg2)
   fs := h.fs
   kids := fun x hx => (h.kids x hx).kept (fun k hk => ⟨hk.1, Nat.lt_of_lt_of_le hk.2.1 (qfA h6 hg), hk.2.2.1, qcW h6 ho hat hk.2.1 hk.2.2.2.1, hk.2.2.2.2⟩) (fun k hk => qbg h6 hg hk.2.1 (by have := hk.1; omega) hk.2.2.2.1)
   ic := fun k hk => ⟨qcW h6 ho hat (hI k hk).2 (h.ic k hk).1, (h.ic k hk).2⟩
   cf := fun k hk => by
     rcases hat with e | e
     . rw [e] at hk; exact h.cf k hk
     . rw [e] at hk
       injection hk with hk
       have := h6.size
       exact fun e2 => by have := (hF k e2).2; omega
   si := h.si
   sc := fun x hx => by
     rcases List.mem_append.1 hx with hx | hx
     . exact h.sc x hx
     . rw [List.mem_singleton.1 hx]; exact hs
   sf := h.sf
   li := h.li
   lc := by show (p.cells ++ [d]).length <= N; rw [List.length_append, List.length_singleton]; omega
   ld := h.ld
   bd := h.bd }
theorem DrT.addF {ty : TypeId} {N : Nat} {w w' : World} {bm : Nat} {p : P} {I C F : Value} {xs : List FV} {x : FV} (h : DrT ty N w bm p I C F xs) (hl : p.defs.length < N) (hs : x.1.name.size <= 9223372036854775807) (hx : TmV w (FarB w bm I C F) x.1.t x.2.1 x.2.2)
   (ha : Added bm 2 60 5 F p.defs.length (xs.flatMap defC) (defC x) w w') : DrTE ty N w' bm { p with defs := p.defs ++ [x.1] } /\ Below bm w w' /\ qch w w' := by
 have hmk := qfB ha h.box h.of_
 obtain ⟨w6, w7, v', h6, hg, ho, hat, rfl⟩ := ha
 have hlt := h.lt
 have hI : ∀ k, I.ownBlock = some k -> bm + 1 <= k /\ k < w.heap.size := fun k hk => qaU h.oi hk
 have hC : ∀ k, C.ownBlock = some k -> bm + 1 <= k /\ k < w.heap.size := fun k hk => qaU h.oc hk
 have hF : ∀ k, F.ownBlock = some k -> bm + 1 <= k /\ k < w.heap.size := fun k hk => qaU h.of_ hk
 have hbx : w7.heap[bm]? = some (.cells #[I, C, F, .int .i64 0, .string ⟨#[]⟩, .int .i64 0, .slice none 0 0] ty (0, 0)) :=
   ((hg.block bm (Nat.lt_of_lt_of_le hlt h6.size) (fun e => by have := hF bm e.symm; omega)).trans (h6.block bm hlt)).trans h.box
 refine ⟨⟨I, C, v', xs ++ [x], ?_⟩, qel (Nat.le_of_lt hlt) (fun k hk => (hF k hk).1) h6 hg, hmk⟩
 have hK : ∀ y : FV, TmV w (FarB w bm I C F) y.1.t y.2.1 y.2.2 -> TmV (w7.setCell ⟨bm, 2, none⟩ v') (FarB (w7.setCell ⟨bm, 2, none⟩ v') bm I C v') y.1.t y.2.1 y.2.2 := fun y hy =>
   hy.kept (fun k hk => ⟨hk.1, Nat.lt_of_lt_of_le hk.2.1 (qfA h6 hg), hk.2.2.1, hk.2.2.2.1, qcW h6 ho hat hk.2.1 hk.2.2.2.2⟩) (fun k hk => qbg h6 hg hk.2.1 (by have := hk.1; omega) hk.2.2.2.2)
 exact {
   box := heap_setCell_same w7 bm 2 _ _ v' hbx
   oi := qal h.oi fun g hg2 => qbg h6 hg (hI g hg2).2 (by have := (hI g hg2).1; omega) (fun e => (h.ic g hg2).2 e)
   oc := qal h.oc fun g hg2 => qbg h6 hg (hC g hg2).2 (by have := (hC g hg2).1; omega) (fun e => (h.cf g hg2) e)
   of_ := by
     have := ownsRow_setCell_below ho (a := ⟨bm, 2, none⟩) (Nat.lt_succ_self bm) v'
     simpa [List.flatMap_append] using this
   fs := by rw [List.map_append, h.fs]; rfl
   kids := fun y hy => by
     rcases List.mem_append.1 hy with hy | hy
     . exact hK y (h.kids y hy)
     . rw [List.mem_singleton.1 hy]; exact hK x hx
   ic := fun k hk => ⟨(h.ic k hk).1, qcW h6 ho hat (hI k hk).2 (h.ic k hk).2⟩
   cf := fun k hk => qcW h6 ho hat (hC k hk).2 (h.cf k hk)
   si := h.si
   sc := h.sc
   sf := fun y hy => by
     rcases List.mem_append.1 hy with hy | hy
     . exact h.sf y hy
     . rw [List.mem_singleton.1 hy]; exact hs
   li := h.li
   lc := h.lc
   ld := by show (p.defs ++ [x.1]).length <= N; rw [List.length_append, List.length_singleton]; omega
   bd := h.bd }
def qcR (bm : Nat) (o : P ⊕ Nat) (w : World) (e : Ending) (w' : World) : Prop := Below bm w w' /\ qch w w' /\ match o with
 | .inl q => e = .returned (.int .i64 0) /\ DrE w' bm q
 | .inr n => e = .returned (.int .i64 n)
def fmS : Fm -> ByteArray
 | .nm => ⟨#[97, 32, 110, 97, 109, 101]⟩
 | .num => ⟨#[97, 32, 110, 117, 109, 98, 101, 114]⟩
 | .tx s => X.strOf s
theorem qhW {x : Tok} (h : Go.Lx.qai x = true) (h1 : x.kind ≠ 1) (h2 : x.kind ≠ 2) : x.text ≠ [97, 32, 110, 97, 109, 101] /\ x.text ≠ [97, 32, 110, 117, 109, 98, 101, 114] := by
 rw [<- qiW] at h
 unfold qfX at h
 rw [if_neg h1, if_neg h2] at h
 split at h
 . rw [Bool.and_eq_true] at h
   exact ⟨fun e => by rw [e] at h; exact absurd h.1 (by decide), fun e => by rw [e] at h; exact absurd h.1 (by decide)⟩
 . split at h
   . rw [Bool.and_eq_true] at h
     exact ⟨fun e => by rw [e] at h; exact absurd h.1 (by decide), fun e => by rw [e] at h; exact absurd h.1 (by decide)⟩
   . cases h
theorem qcX (l : List UInt8) : (X.strOf l).toList = l := by rw [ByteArray.toList_eq, X.qaP]
theorem qst {x : Tok} (h : Go.Lx.qai x = true) : ∀ f : Fm, (∀ s, f = .tx s -> s = [58] ∨ s = [61]) -> isB x (fmS f) = isF x f
 | .nm, _ => by
   have a0 : (fmS .nm).toList = [97, 32, 110, 97, 109, 101] := qcX _
   rw [show isF x .nm = (x.kind == 1) from rfl]
   unfold isB
   rw [a0]
   by_cases h1 : x.kind = 1
   . rw [if_pos h1, h1]; rfl
   . rw [if_neg h1, show (x.kind == 1) = false by simpa using h1]
     by_cases h2 : x.kind = 2
     . rw [if_pos h2]; rfl
     . rw [if_neg h2, qcX]
       have := (qhW h h1 h2).1
       simpa using fun e => this e.symm
 | .num, _ => by
   have a0 : (fmS .num).toList = [97, 32, 110, 117, 109, 98, 101, 114] := qcX _
   rw [show isF x .num = (x.kind == 2) from rfl]
   unfold isB
   rw [a0]
   by_cases h1 : x.kind = 1
   . rw [if_pos h1, h1]; rfl
   . rw [if_neg h1]
     by_cases h2 : x.kind = 2
     . rw [if_pos h2, h2]; rfl
     . rw [if_neg h2, qcX, show (x.kind == 2) = false by simpa using h2]
       have := (qhW h h1 h2).2
       simpa using fun e => this e.symm
 | .tx s, hs => by
   have a0 : (fmS (.tx s)).toList = s := qcX _
   rw [show isF x (.tx s) = (x.kind != 1 && x.kind != 2 && x.text == s) from rfl]
   unfold isB
   rw [a0]
   by_cases h1 : x.kind = 1
   . rw [if_pos h1, h1]
     rcases hs s rfl with rfl | rfl <;> rfl
   . rw [if_neg h1]
     by_cases h2 : x.kind = 2
     . rw [if_pos h2, h2]
       rcases hs s rfl with rfl | rfl <;> rfl
     . rw [if_neg h2, qcX]
       have e1 : (x.kind != 1) = true := by simpa using h1
       have e2 : (x.kind != 2) = true := by simpa using h2
       rw [e1, e2, Bool.true_and, Bool.true_and]
       exact Bool.eq_iff_iff.2 (by simp only [beq_iff_eq]; exact eq_comm)
theorem qeV : ∀ {l : List Tok} {fs : List Fm}, (∀ x ∈ l, Go.Lx.qai x = true) -> (∀ f ∈ fs, ∀ s, f = .tx s -> s = [58] ∨ s = [61]) -> fitsB l (fs.map fmS) = fitsF l fs
 | [], [], _, _ => rfl
 | [], _ :: _, _, _ => rfl
 | _ :: _, [], _, _ => rfl
 | x :: l, f :: fs, h, hf => by
   rw [List.map_cons, fitsB, fitsF, qst (h x (by simp)) f (hf f (by simp)), qeV (fun y hy => h y (by simp [hy])) (fun g hg => hf g (by simp [hg]))]
theorem qsu {l : List Tok} (h : ∀ x ∈ l, Go.Lx.qai x = true) : fitsB l [⟨#[97, 32, 110, 97, 109, 101]⟩, ⟨#[58]⟩, ⟨#[97, 32, 110, 97, 109, 101]⟩] = fitsF l [.nm, .tx [58], .nm] :=
 qeV (fs := [.nm, .tx [58], .nm]) h (by intro f hf s e; simp only [List.mem_cons, List.not_mem_nil, or_false] at hf; rcases hf with rfl | rfl | rfl <;> cases e; exact .inl rfl)
theorem qpl {l : List Tok} (h : ∀ x ∈ l, Go.Lx.qai x = true) : fitsB l [⟨#[97, 32, 110, 97, 109, 101]⟩, ⟨#[58]⟩, ⟨#[97, 32, 110, 97, 109, 101]⟩, ⟨#[61]⟩, ⟨#[97, 32, 110, 117, 109, 98, 101, 114]⟩] = fitsF l [.nm, .tx [58], .nm, .tx [61], .num] :=
 qeV (fs := [.nm, .tx [58], .nm, .tx [61], .num]) h (by intro f hf s e; simp only [List.mem_cons, List.not_mem_nil, or_false] at hf; rcases hf with rfl | rfl | rfl | rfl | rfl <;> cases e; exact .inl rfl; exact .inr rfl)
theorem qqW {l : List Tok} (h : ∀ x ∈ l, Go.Lx.qai x = true) : fitsB l [⟨#[97, 32, 110, 97, 109, 101]⟩, ⟨#[61]⟩] = fitsF l [.nm, .tx [61]] :=
 qeV (fs := [.nm, .tx [61]]) h (by intro f hf s e; simp only [List.mem_cons, List.not_mem_nil, or_false] at hf; rcases hf with rfl | rfl <;> cases e; exact .inr rfl)
noncomputable def inT (p : P) (r : List Tok) : P ⊕ Nat :=
 if fitsF r [.nm, .tx [58], .nm] = true /\ p.cells = [] /\ p.defs = [] then
   if p.ins.length = 32 then .inr 1 else .inl { p with ins := p.ins ++ [⟨tx r 0, tx r 2, 0⟩] }
 else .inr 2
noncomputable def cellT (p : P) (r : List Tok) : P ⊕ Nat :=
 if fitsF r [.nm, .tx [58], .nm, .tx [61], .num] = true /\ p.defs = [] then
   if p.cells.length = 32 then .inr 1 else .inl { p with cells := p.cells ++ [⟨tx r 0, tx r 2, (r.getD 4 ⟨0, [], 0⟩).num⟩] }
 else .inr 2
noncomputable def defT (p : P) (r : List Tok) : P ⊕ Nat :=
 if fitsF (r.take 2) [.nm, .tx [61]] = true then
   if (tell (r.drop 2)).2 ≠ 0 then .inr (tell (r.drop 2)).2
   else if (tell (r.drop 2)).1.kind ≠ 3 then .inr 2
   else if p.defs.length = 32 then .inr 1 else .inl { p with defs := p.defs ++ [⟨tx r 0, (tell (r.drop 2)).1⟩] }
 else .inr 2
theorem qlb (p : P) : qaL p [] = .inr 2 := rfl
theorem qhX (p : P) {x : Tok} (r : List Tok) (h : x.text = [105, 110, 112, 117, 116]) : qaL p (x :: r) = inT p r := by
 unfold qaL inT
 dsimp only
 rw [if_pos h]
theorem qfS (p : P) {x : Tok} (r : List Tok) (h : x.text = [99, 101, 108, 108]) : qaL p (x :: r) = cellT p r := by
 unfold qaL cellT
 dsimp only
 rw [if_neg (by rw [h]; decide), if_pos h]
theorem qho (p : P) {x : Tok} (r : List Tok) (h : x.text = [100, 101, 102]) : qaL p (x :: r) = defT p r := by
 unfold qaL defT
 dsimp only
 rw [if_neg (by rw [h]; decide), if_neg (by rw [h]; decide), if_pos h]
theorem qhY (p : P) {x : Tok} (r : List Tok) (h1 : x.text ≠ [105, 110, 112, 117, 116]) (h2 : x.text ≠ [99, 101, 108, 108]) (h3 : x.text ≠ [100, 101, 102]) : qaL p (x :: r) = .inr 2 := by
 unfold qaL
 dsimp only
 rw [if_neg h1, if_neg h2, if_neg h3]
end Go.Proofs.YtjnfhebbphdchaaGreatDoor.Pg
namespace Go.Proofs.YtjnfhebbphdchaaGreatDoor.Pg
open Go.RowKit Go.Shelf Go.Tm Go.Lx Go.Maps Go.Proofs.YtjnfhebbphdchaaGreatDoor.Pa
attribute [local go_sem] Oper.semAt_some
theorem qtk {W : World} {b : Nat} {x y z : ByteArray} (h : W.heap[b]? = some (.cells #[.string x, .string y, .string z] 9 (0, 0))) : Txts W (some ⟨b, 0, none⟩) [x, y, z] := fun _ => by
 refine ⟨b, 0, rfl, World.lt_of_get h, fun j hj => ?_⟩
 rw [Nat.zero_add, qaa W b j _ _ _ h]
 match j, hj with
 | 0, _ => rfl
 | 1, _ => rfl
 | 2, _ => rfl
 | j + 3, hj => simp at hj; omega
theorem qjR (bm : Nat) (p : P) (A : Option Addr) (r : List Tok) (c : Nat) (w : World) (hD : DrE w bm p) (hU : X.Toks w w.heap.size A r) (hS : X.Short r) (hr : ∀ x ∈ r, Go.Lx.qai x = true) (hl : r.length <= 1000000000) :
   Calls Tryz.prog 94 #[.pointer (some ⟨bm, 0, none⟩), .slice A r.length c] w (qcR bm (inT p r) w) := by
 obtain ⟨I, C, F, xs, h⟩ := hD
 have hlt := h.lt
 have hb1 := X.qab w (.cells #[.string ⟨#[97, 32, 110, 97, 109, 101]⟩, .string ⟨#[58]⟩, .string ⟨#[97, 32, 110, 97, 109, 101]⟩] 9)
 have hx1 := World.alloc_heap_new w (.cells #[.string ⟨#[97, 32, 110, 97, 109, 101]⟩, .string ⟨#[58]⟩, .string ⟨#[97, 32, 110, 97, 109, 101]⟩] 9)
 obtain ⟨W1, hW1⟩ : ∃ W, w.alloc (.cells #[.string ⟨#[97, 32, 110, 97, 109, 101]⟩, .string ⟨#[58]⟩, .string ⟨#[97, 32, 110, 97, 109, 101]⟩] 9) = W := ⟨_, rfl⟩
 rw [hW1] at hb1 hx1
 have kf := qiL A r c (some ⟨w.heap.size, 0, none⟩) [⟨#[97, 32, 110, 97, 109, 101]⟩, ⟨#[58]⟩, ⟨#[97, 32, 110, 97, 109, 101]⟩] 3 W1 (hU.later hb1) (qtk hx1) (by omega)
 rw [qsu hr] at kf
 obtain ⟨N, hN⟩ : ∃ N, r.length = N := ⟨_, rfl⟩
 rw [hN] at kf hl ⊢
 obtain ⟨f, hf⟩ : ∃ f, fitsF r [.nm, .tx [58], .nm] = f := ⟨_, rfl⟩
 rw [hf] at kf
 obtain ⟨CA, cc, rfl, _, _⟩ := qbe h.oc
 obtain ⟨FA, fc, rfl, _, _⟩ := qbe h.of_
 obtain ⟨IA, ic, rfl, _, _⟩ := qbe h.oi
 have hbm : bm <= w.heap.size := Nat.le_of_lt hlt
 replace hb1 := hid hb1
 replace hx1 := hid hx1
 replace kf := hid kf
 replace hN := hid hN
 replace hr := hid hr
 replace hU := hid hU
 replace hS := hid hS
 replace hf := hid hf
 have hbmh := hid hbm
 clear hbm hlt
 cases f with
 | false =>
   have ho : Hid (inT p r = .inr 2) := by
     show inT p r = _
     unfold inT
     rw [if_neg (by rw [hf.out]; simp)]
   clear h
   go_enter Tryz.func94, Tryz.ntmps94
   go_wp2_with fail
   replace hW1 := hid hW1
   refine kf.out.mono ?_
   rintro e w2 ⟨rfl, hb2⟩
   have hb9 := hid (hb1.out.trans (hb2.mono hb1.out.size))
   clear hb2 kf
   go_wp2_with fail
   go_ret
   refine ⟨hb9.out.mono hbmh.out, mk_of hb9.out, ?_⟩
   rw [ho.out]; rfl
 | true =>
   go_enter Tryz.func94, Tryz.ntmps94
   go_wp2_with fail
   replace hW1 := hid hW1
   refine kf.out.mono ?_
   rintro e w2 ⟨rfl, hb2⟩
   have hb9 := hid (hb1.out.trans (hb2.mono hb1.out.size))
   clear hb2 kf
   have h2 := h.later hb9.out
   clear h
   have q0 : w2.cell? ⟨bm, 0, none⟩ = some (.slice IA p.ins.length ic) := qaa _ _ 0 _ _ _ h2.box
   have q1 : w2.cell? ⟨bm, 1, none⟩ = some (.slice CA p.cells.length cc) := qaa _ _ 1 _ _ _ h2.box
   have q2 : w2.cell? ⟨bm, 2, none⟩ = some (.slice FA p.defs.length fc) := qaa _ _ 2 _ _ _ h2.box
   have fr0 : w2.frozen? ⟨bm, 0, none⟩ = false := qac h2.box 0
   obtain ⟨a, b, d, hR, ha, hb, hd⟩ := qtf hf.out
   have hno : (p.cells = [] /\ p.defs = []) ∨ ¬ (p.cells = [] /\ p.defs = []) := Classical.em _
   by_cases hc0 : p.cells.length = 0
   . have e1 : p.cells = [] := List.length_eq_zero_iff.1 hc0
     rw [hc0] at q1
     by_cases hd0 : p.defs.length = 0
     . have e2 : p.defs = [] := List.length_eq_zero_iff.1 hd0
       rw [hd0] at q2
       subst hR
       obtain rfl : N = 3 := hN.out.symm
       obtain ⟨bb, bo, rfl, hbb, hcells⟩ := (hU.out.later hb9.out) (by simp)
       have c0 : w2.cell? ⟨bb, bo + 1, none⟩ = some (.string (X.strOf a.text)) := by have := (hcells 0 (by simp)).2.1; simpa using this
       have c2 : w2.cell? ⟨bb, bo + 6 + 1, none⟩ = some (.string (X.strOf d.text)) := by have := (hcells 2 (by simp)).2.1; simpa using this
       have s0 : (X.strOf a.text).size <= 9223372036854775807 := by rw [X.qbE]; have : a.text.length <= 140737488355328 := hS.out 0; omega
       have s2 : (X.strOf d.text).size <= 9223372036854775807 := by rw [X.qbE]; have : d.text.length <= 140737488355328 := hS.out 2; omega
       have hb8 : Below w.heap.size w w2.drew := hb9.out.drew
       have h3 := h2.later (W' := w2.drew) (Below.refl _ w2).drew
       by_cases hfull : p.ins.length = 32
       . have ho : Hid (inT p [a, b, d] = .inr 1) := by
           show inT p [a, b, d] = _
           unfold inT
           rw [if_pos ⟨hf.out, e1, e2⟩, if_pos hfull]
         rw [hfull] at q0
         have kA := hid (qpk bm 0 IA ic (X.strOf a.text) (X.strOf d.text) 0 w2.drew q0 h3.lt)
         replace hb8 := hid hb8
         clear h2 h3 hcells hno hfull e1 e2 s0 s2
         go_wp2_with fail
         go_still_tail 12, (by kernel_rfl)
         go_wp2_with fail
         refine kA.out.mono ?_
         rintro e w3 ⟨rfl, hb3⟩
         have hb7 := hid (hb8.out.trans (hb3.mono hb8.out.size))
         clear hb3 kA
         go_wp2_with fail
         go_ret
         refine ⟨hb7.out.mono hbmh.out, mk_of hb7.out, ?_⟩
         rw [ho.out]; rfl
       . have ho : Hid (inT p [a, b, d] = .inl { p with ins := p.ins ++ [⟨X.strOf a.text, X.strOf d.text, 0⟩] }) := by
           show inT p [a, b, d] = _
           unfold inT
           rw [if_pos ⟨hf.out, e1, e2⟩, if_neg hfull]
           rfl
         have hl32 : p.ins.length < 32 := by have := h2.li; omega
         have kA := hid (qmk bm 0 p.ins.length IA ic (p.ins.flatMap declC) (X.strOf a.text) (X.strOf d.text) 0 w2.drew q0 fr0 h3.oi hl32 h3.lt)
         have kD := hid (fun w' ha => h3.addI (d := ⟨X.strOf a.text, X.strOf d.text, 0⟩) (w' := w') hl32 ⟨s0, s2⟩ ha)
         replace hb8 := hid hb8
         clear h2 h3 hcells hno hfull e1 e2 s0 s2 hl32
         go_wp2_with fail
         go_still_tail 12, (by kernel_rfl)
         go_wp2_with fail
         refine kA.out.mono ?_
         rintro e w3 ⟨rfl, ha3⟩
         have hD3 := hid (kD.out w3 ha3)
         clear ha3 kA
         go_wp2_with fail
         go_ret
         refine ⟨(hb8.out.mono hbmh.out).trans hD3.out.2.1, (mk_of hb8.out).trans hD3.out.2.2, ?_⟩
         rw [ho.out]
         exact ⟨rfl, hD3.out.1⟩
     . have hd1 : 0 < p.defs.length := Nat.pos_of_ne_zero hd0
       have ho : Hid (inT p r = .inr 2) := by
         show inT p r = _
         unfold inT
         rw [if_neg (fun h => hd0 (by rw [h.2.2]; rfl))]
       generalize p.defs.length = nd at *
       have hd2 : decide (0 < nd) = true := decide_eq_true hd1
       replace h2 := hid h2
       replace hR := hid hR
       clear hno
       go_wp2_with fail
       go_ret
       refine ⟨hb9.out.mono hbmh.out, mk_of hb9.out, ?_⟩
       rw [ho.out]; rfl
   . have hc1 : 0 < p.cells.length := Nat.pos_of_ne_zero hc0
     have ho : Hid (inT p r = .inr 2) := by
       show inT p r = _
       unfold inT
       rw [if_neg (fun h => hc0 (by rw [h.2.1]; rfl))]
     generalize p.cells.length = nc at *
     have hc2 : decide (0 < nc) = true := decide_eq_true hc1
     replace h2 := hid h2
     replace hR := hid hR
     clear hno
     go_wp2_with fail
     go_ret
     refine ⟨hb9.out.mono hbmh.out, mk_of hb9.out, ?_⟩
     rw [ho.out]; rfl
theorem qtl {W : World} {b : Nat} {x y z s u : ByteArray} (h : W.heap[b]? = some (.cells #[.string x, .string y, .string z, .string s, .string u] 9 (0, 0))) : Txts W (some ⟨b, 0, none⟩) [x, y, z, s, u] := fun _ => by
 refine ⟨b, 0, rfl, World.lt_of_get h, fun j hj => ?_⟩
 rw [Nat.zero_add, qaa W b j _ _ _ h]
 match j, hj with
 | 0, _ => rfl
 | 1, _ => rfl
 | 2, _ => rfl
 | 3, _ => rfl
 | 4, _ => rfl
 | j + 5, hj => simp at hj; omega
theorem qml (bm : Nat) (p : P) (A : Option Addr) (r : List Tok) (c : Nat) (w : World) (hD : DrE w bm p) (hU : X.Toks w w.heap.size A r) (hS : X.Short r) (hr : ∀ x ∈ r, Go.Lx.qai x = true) (hl : r.length <= 1000000000) :
   Calls Tryz.prog 95 #[.pointer (some ⟨bm, 0, none⟩), .slice A r.length c] w (qcR bm (cellT p r) w) := by
 obtain ⟨I, C, F, xs, h⟩ := hD
 have hlt := h.lt
 have hb1 := X.qab w (.cells #[.string ⟨#[97, 32, 110, 97, 109, 101]⟩, .string ⟨#[58]⟩, .string ⟨#[97, 32, 110, 97, 109, 101]⟩, .string ⟨#[61]⟩, .string ⟨#[97, 32, 110, 117, 109, 98, 101, 114]⟩] 9)
 have hx1 := World.alloc_heap_new w (.cells #[.string ⟨#[97, 32, 110, 97, 109, 101]⟩, .string ⟨#[58]⟩, .string ⟨#[97, 32, 110, 97, 109, 101]⟩, .string ⟨#[61]⟩, .string ⟨#[97, 32, 110, 117, 109, 98, 101, 114]⟩] 9)
 obtain ⟨W1, hW1⟩ : ∃ W, w.alloc (.cells #[.string ⟨#[97, 32, 110, 97, 109, 101]⟩, .string ⟨#[58]⟩, .string ⟨#[97, 32, 110, 97, 109, 101]⟩, .string ⟨#[61]⟩, .string ⟨#[97, 32, 110, 117, 109, 98, 101, 114]⟩] 9) = W := ⟨_, rfl⟩
 rw [hW1] at hb1 hx1
 have kf := qiL A r c (some ⟨w.heap.size, 0, none⟩) [⟨#[97, 32, 110, 97, 109, 101]⟩, ⟨#[58]⟩, ⟨#[97, 32, 110, 97, 109, 101]⟩, ⟨#[61]⟩, ⟨#[97, 32, 110, 117, 109, 98, 101, 114]⟩] 5 W1 (hU.later hb1) (qtl hx1) (by omega)
 rw [qpl hr] at kf
 obtain ⟨N, hN⟩ : ∃ N, r.length = N := ⟨_, rfl⟩
 rw [hN] at kf hl ⊢
 obtain ⟨f, hf⟩ : ∃ f, fitsF r [.nm, .tx [58], .nm, .tx [61], .num] = f := ⟨_, rfl⟩
 rw [hf] at kf
 obtain ⟨CA, cc, rfl, _, _⟩ := qbe h.oc
 obtain ⟨FA, fc, rfl, _, _⟩ := qbe h.of_
 obtain ⟨IA, ic, rfl, _, _⟩ := qbe h.oi
 have hbm : bm <= w.heap.size := Nat.le_of_lt hlt
 replace hb1 := hid hb1
 replace hx1 := hid hx1
 replace kf := hid kf
 replace hN := hid hN
 replace hr := hid hr
 replace hU := hid hU
 replace hS := hid hS
 replace hf := hid hf
 have hbmh := hid hbm
 clear hbm hlt
 cases f with
 | false =>
   have ho : Hid (cellT p r = .inr 2) := by
     show cellT p r = _
     unfold cellT
     rw [if_neg (by rw [hf.out]; simp)]
   clear h
   go_enter Tryz.func95, Tryz.ntmps95
   go_wp2_with fail
   replace hW1 := hid hW1
   refine kf.out.mono ?_
   rintro e w2 ⟨rfl, hb2⟩
   have hb9 := hid (hb1.out.trans (hb2.mono hb1.out.size))
   clear hb2 kf
   go_wp2_with fail
   go_ret
   refine ⟨hb9.out.mono hbmh.out, mk_of hb9.out, ?_⟩
   rw [ho.out]; rfl
 | true =>
   go_enter Tryz.func95, Tryz.ntmps95
   go_wp2_with fail
   replace hW1 := hid hW1
   refine kf.out.mono ?_
   rintro e w2 ⟨rfl, hb2⟩
   have hb9 := hid (hb1.out.trans (hb2.mono hb1.out.size))
   clear hb2 kf
   have h2 := h.later hb9.out
   clear h
   have q0 : w2.cell? ⟨bm, 0, none⟩ = some (.slice IA p.ins.length ic) := qaa _ _ 0 _ _ _ h2.box
   have q1 : w2.cell? ⟨bm, 1, none⟩ = some (.slice CA p.cells.length cc) := qaa _ _ 1 _ _ _ h2.box
   have q2 : w2.cell? ⟨bm, 2, none⟩ = some (.slice FA p.defs.length fc) := qaa _ _ 2 _ _ _ h2.box
   have fr1 : w2.frozen? ⟨bm, 1, none⟩ = false := qac h2.box 1
   obtain ⟨a, b, d, e5, g, hR, ha, hb, hd, he, hg⟩ := qth hf.out
   by_cases hd0 : p.defs.length = 0
   . have e2 : p.defs = [] := List.length_eq_zero_iff.1 hd0
     rw [hd0] at q2
     subst hR
     obtain rfl : N = 5 := hN.out.symm
     obtain ⟨bb, bo, rfl, hbb, hcells⟩ := (hU.out.later hb9.out) (by simp)
     have c0 : w2.cell? ⟨bb, bo + 1, none⟩ = some (.string (X.strOf a.text)) := by have := (hcells 0 (by simp)).2.1; simpa using this
     have c2 : w2.cell? ⟨bb, bo + 6 + 1, none⟩ = some (.string (X.strOf d.text)) := by have := (hcells 2 (by simp)).2.1; simpa using this
     have c4 : w2.cell? ⟨bb, bo + 12 + 2, none⟩ = some (.int .i64 g.num) := by have := (hcells 4 (by simp)).2.2; simpa using this
     have s0 : (X.strOf a.text).size <= 9223372036854775807 := by rw [X.qbE]; have : a.text.length <= 140737488355328 := hS.out 0; omega
     have s2 : (X.strOf d.text).size <= 9223372036854775807 := by rw [X.qbE]; have : d.text.length <= 140737488355328 := hS.out 2; omega
     have hb8 : Below w.heap.size w w2.drew := hb9.out.drew
     have h3 := h2.later (W' := w2.drew) (Below.refl _ w2).drew
     by_cases hfull : p.cells.length = 32
     . have ho : Hid (cellT p [a, b, d, e5, g] = .inr 1) := by
         show cellT p [a, b, d, e5, g] = _
         unfold cellT
         rw [if_pos ⟨hf.out, e2⟩, if_pos hfull]
       rw [hfull] at q1
       have kA := hid (qpk bm 1 CA cc (X.strOf a.text) (X.strOf d.text) g.num w2.drew q1 h3.lt)
       replace hb8 := hid hb8
       clear h2 h3 hcells hfull e2 s0 s2
       go_wp2_with fail
       go_still_tail 16, (by kernel_rfl)
       go_wp2_with fail
       refine kA.out.mono ?_
       rintro e w3 ⟨rfl, hb3⟩
       have hb7 := hid (hb8.out.trans (hb3.mono hb8.out.size))
       clear hb3 kA
       go_wp2_with fail
       go_ret
       refine ⟨hb7.out.mono hbmh.out, mk_of hb7.out, ?_⟩
       rw [ho.out]; rfl
     . have ho : Hid (cellT p [a, b, d, e5, g] = .inl { p with cells := p.cells ++ [⟨X.strOf a.text, X.strOf d.text, g.num⟩] }) := by
         show cellT p [a, b, d, e5, g] = _
         unfold cellT
         rw [if_pos ⟨hf.out, e2⟩, if_neg hfull]
         rfl
       have hl32 : p.cells.length < 32 := by have := h2.lc; omega
       have kA := hid (qmk bm 1 p.cells.length CA cc (p.cells.flatMap declC) (X.strOf a.text) (X.strOf d.text) g.num w2.drew q1 fr1 h3.oc hl32 h3.lt)
       have kD := hid (fun w' ha => h3.addC (d := ⟨X.strOf a.text, X.strOf d.text, g.num⟩) (w' := w') hl32 ⟨s0, s2⟩ ha)
       replace hb8 := hid hb8
       clear h2 h3 hcells hfull e2 s0 s2 hl32
       go_wp2_with fail
       go_still_tail 16, (by kernel_rfl)
       go_wp2_with fail
       refine kA.out.mono ?_
       rintro e w3 ⟨rfl, ha3⟩
       have hD3 := hid (kD.out w3 ha3)
       clear ha3 kA
       go_wp2_with fail
       go_ret
       refine ⟨(hb8.out.mono hbmh.out).trans hD3.out.2.1, (mk_of hb8.out).trans hD3.out.2.2, ?_⟩
       rw [ho.out]
       exact ⟨rfl, hD3.out.1⟩
   . have hd1 : 0 < p.defs.length := Nat.pos_of_ne_zero hd0
     have ho : Hid (cellT p r = .inr 2) := by
       show cellT p r = _
       unfold cellT
       rw [if_neg (fun h => hd0 (by rw [h.2]; rfl))]
     generalize p.defs.length = nd at *
     have hd2 : decide (0 < nd) = true := decide_eq_true hd1
     replace h2 := hid h2
     replace hR := hid hR
     skip
     go_wp2_with fail
     go_ret
     refine ⟨hb9.out.mono hbmh.out, mk_of hb9.out, ?_⟩
     rw [ho.out]; rfl
end Go.Proofs.YtjnfhebbphdchaaGreatDoor.Pg
namespace Go.Proofs.YtjnfhebbphdchaaGreatDoor.Pg
open Go.RowKit Go.Lx
def qcM (A : Option Addr) (c : Nat) (x : Nat × Nat) : Value := .slice (if c = x.1 then A else A.map (·.add (x.1 * 3))) (x.2 - x.1) (c - x.1)
theorem qpm : (Tryz.prog.info? 69).map (fun i => (i.zero, i.size, i.bytes)) = some (some (.slice none 0 0), 1, 24) := by kernel_rfl
theorem qeW {w : World} {B : Nat} {A : Option Addr} {l : List Tok} {c : Nat} {x : Nat × Nat} (h : X.Toks w B A l) (hc : l.length <= c) (h1 : x.1 <= x.2) (h2 : x.2 <= l.length) : X.Toks w B (if c = x.1 then A else A.map (·.add (x.1 * 3))) (spanL l x) := fun hn => by
 have hlen := qiG h2
 have hpos : x.1 < x.2 := by
   rcases Nat.lt_or_ge x.1 x.2 with h3 | h3
   . exact h3
   . exact absurd (List.length_eq_zero_iff.1 (by rw [hlen]; omega)) hn
 obtain ⟨b, off, rfl, hb, hj⟩ := h (by intro e; subst e; simp at h2; omega)
 rw [if_neg (by omega)]
 refine ⟨b, off + x.1 * 3, by rw [Option.map_some, Addr.add_lit], hb, fun j hj2 => ?_⟩
 rw [hlen] at hj2
 have := hj (x.1 + j) (by omega)
 rw [qqH h2 hj2]
 rw [show off + (x.1 + j) * 3 = off + x.1 * 3 + j * 3 by omega] at this
 exact this
theorem qfC {W W' : World} {base size n : Nat} {e : TypeId} {v : Value} {xs : List Value} (h : W.ownsRow base e size v n xs) (hb : Below W.heap.size W W') : W'.ownsRow base e size v n xs := by
 obtain ⟨h1, h2 | ⟨g, cap, cur, hv, hbg, hg, r⟩⟩ := h
 . exact ⟨h1, .inl h2⟩
 . exact ⟨h1, .inr ⟨g, cap, cur, hv, hbg, (hb.block g (Array.getElem?_eq_some_iff.1 hg).1).trans hg, r⟩⟩
theorem qhZ {W : World} {base size n : Nat} {e : TypeId} {v : Value} {xs : List Value} (h : W.ownsRow base e size v n xs) (k : Nat) (hk : v.ownBlock = some k) : base <= k := by
 obtain ⟨_, ⟨rfl, _⟩ | ⟨g, cap, cur, rfl, hbg, _⟩⟩ := h
 . cases hk
 . cases hk; exact hbg
theorem qmm (A : Option Addr) (c : Nat) (sp : List (Nat × Nat)) (x : Nat × Nat) : (sp ++ [x]).map (qcM A c) = sp.map (qcM A c) ++ [qcM A c x] := by simp
theorem qnr (A : Option Addr) (l : List Tok) (c : Nat) (w : World) (hU : X.Toks w w.heap.size A l) (hl : l.length <= 1000000000) (hc : l.length <= c) (hc2 : c <= 9223372036854775807) :
   Calls Tryz.prog 28 #[.slice A l.length c] w fun e w' => ∃ (v : Value) (sp : List (Nat × Nat)), e = .returned v /\ Below w.heap.size w w' /\ w'.ownsRow w.heap.size 69 1 v sp.length (sp.map (qcM A c)) /\ sp.map (spanL l) = cutL l /\ ∀ x ∈ sp, x.1 <= x.2 /\ x.2 <= l.length := by
 obtain ⟨i0, hi, hi2⟩ := Option.map_eq_some_iff.1 qpm
 obtain ⟨hz0, hz1, hz2⟩ : i0.zero = some (.slice none 0 0) /\ i0.size = 1 /\ i0.bytes = 24 := by
   injection hi2 with h1 h2; injection h2 with h2 h3; exact ⟨h1, h2, h3⟩
 replace hi := hid hi
 replace hz0 := hid hz0
 replace hz1 := hid hz1
 replace hz2 := hid hz2
 clear hi2
 have hstart := hid (qoZ l)
 have hdot := hid (fun (k a : Nat) (sp : List (Nat × Nat)) (h : CutAt l k a sp) (hk : k < l.length) (hd : (l.getD k ⟨0, [], 0⟩).text = [46]) => qsm h hk hd)
 have hnot := hid (fun (k a : Nat) (sp : List (Nat × Nat)) (h : CutAt l k a sp) (ha : a <= k) (hk : k < l.length) (hd : (l.getD k ⟨0, [], 0⟩).text ≠ [46]) => qsn h ha hk hd)
 have hend := hid (fun (a : Nat) (sp : List (Nat × Nat)) (h : CutAt l l.length a sp) => qpa h)
 obtain ⟨N, hN⟩ : ∃ N, l.length = N := ⟨_, rfl⟩
 rw [hN] at hl hc hdot hnot hend ⊢
 replace hN := hid hN
 replace hU := hid hU
 go_enter Tryz.func28, Tryz.ntmps28
 go_wp2_with fail
 go_loopw [3, 4, 9] (fun v f i wr => ∃ (k a : Nat) (v' : Value) (sp : List (Nat × Nat)), v = v' /\ f = .int .i64 a /\ i = .int .i64 k /\ k <= N /\ a <= k /\ sp.length <= k /\ Hid (wr.ownsRow w.heap.size 69 1 v' sp.length (sp.map (qcM A c))) /\ Hid (CutAt l k a sp) /\ Hid (∀ x ∈ sp, x.1 <= x.2 /\ x.2 <= N) /\ Hid (Below w.heap.size w wr)) (fun _ _ i _ => N - (intOf i).toNat)
 case atStart => exact ⟨0, 0, _, [], rfl, rfl, rfl, Nat.zero_le _, Nat.le_refl _, Nat.le_refl _, World.ownsRow_nil _ _ _ _, hstart.out, (fun _ h => by cases h), Below.refl _ _⟩
 case round =>
   obtain ⟨k, a, v', sp, rfl, rfl, rfl, hk, ha, hsl, hown, hcut, hsp, hB⟩ := hrel
   by_cases hlt : k < N
   . obtain ⟨b, off, hA, hb, hcells⟩ := (hU.out.later hB.out) (by intro e; have h1 := hN.out; rw [e] at h1; simp at h1; omega)
     obtain ⟨c0, c1, c2⟩ := hcells k (by have h1 := hN.out; omega)
     clear hcells
     have hd := hid (hdot.out k a sp hcut.out hlt)
     have hn := hid (hnot.out k a sp hcut.out ha hlt)
     replace hA := hid hA
     have hb9 : Below w.heap.size w (wr.alloc (.cells #[.int .i64 (l.getD k ⟨0, [], 0⟩).kind, .string (X.strOf (l.getD k ⟨0, [], 0⟩).text), .int .i64 (l.getD k ⟨0, [], 0⟩).num] 118)) := hB.out.alloc hB.out.size _
     have hown9 := qfC hown.out (X.qab wr (.cells #[.int .i64 (l.getD k ⟨0, [], 0⟩).kind, .string (X.strOf (l.getD k ⟨0, [], 0⟩).text), .int .i64 (l.getD k ⟨0, [], 0⟩).num] 118))
     have hbx := World.alloc_heap_new wr (.cells #[.int .i64 (l.getD k ⟨0, [], 0⟩).kind, .string (X.strOf (l.getD k ⟨0, [], 0⟩).text), .int .i64 (l.getD k ⟨0, [], 0⟩).num] 118)
     have htl : (X.strOf (l.getD k ⟨0, [], 0⟩).text).toList = (l.getD k ⟨0, [], 0⟩).text := by rw [ByteArray.toList_eq, X.qaP]
     by_cases hx : (l.getD k ⟨0, [], 0⟩).text = [46]
     . have g1 : ((X.strOf (l.getD k ⟨0, [], 0⟩).text).toList == [46]) = true := by rw [htl, hx]; rfl
       have hcut9 := hid (hd.out hx)
       clear hx htl hd hn hcut
       generalize l.getD k ⟨0, [], 0⟩ = q at c0 c1 c2 hbx hb9 hown9 g1
       obtain ⟨qk, qt, qn⟩ := q
       dsimp only at c0 c1 c2 hbx hb9 hown9 g1
       have y1 := qaa _ _ 1 _ _ _ hbx
       replace hbx := hid hbx
       replace hb9 := hid hb9
       replace hown9 := hid hown9
       have hac : (a : Int) <= k := by omega
       have hkc : (k : Int) <= c := by omega
       rw [hA.out]
       rw [hA.out] at hown9
       have hpv : qcM (some ⟨b, off, none⟩) c (a, k) = .slice (some ⟨b, off + a * 3, none⟩) (k - a) (c - a) := by
         unfold qcM
         dsimp only
         rw [if_neg (by omega), Option.map_some, Addr.add_lit]
       have hb2 := X.qab (wr.alloc (.cells #[.int .i64 qk, .string (X.strOf qt), .int .i64 qn] 118)) (.cells #[.slice (some ⟨b, off + a * 3, none⟩) (k - a) (c - a)] 69)
       have hownB := hid (qfC hown9.out hb2)
       have hb10 := hid (hb9.out.trans (hb2.mono hb9.out.size))
       have hbx2 := World.alloc_heap_new (wr.alloc (.cells #[.int .i64 qk, .string (X.strOf qt), .int .i64 qn] 118)) (.cells #[.slice (some ⟨b, off + a * 3, none⟩) (k - a) (c - a)] 69)
       replace hbx2 := hid hbx2
       replace hpv := hid hpv
       clear hb2
       have hsl2 : sp.length + 1 <= 1000000001 := by omega
       go_wp2_with (at_builtin; refine wpList_append_own _ rfl _ _ 72 rfl w.heap.size 69 i0 (.slice none 0 0) 1 24 Tryz.underlying72 hi.out hz0.out hz1.out hz2.out rfl (by decide) _ _ _ rfl hownB.out ⟨wr.heap.size + 1, 0, none⟩ 1 1 [.slice (some ⟨b, off + a * 3, none⟩) (k - a) (c - a)] rfl rfl ?c1 ?c2 ?c3 ?c4 ?c5 ?_)
       case c1 =>
         intro j u hj
         have e : (wr.alloc (.cells #[.int .i64 qk, .string (X.strOf qt), .int .i64 qn] 118)).heap.size = wr.heap.size + 1 := by simp
         have x0 := qaa _ _ 0 _ _ _ hbx2.out
         rw [e] at x0
         match j, hj with
         | 0, hj => cases hj; exact x0
         | j + 1, hj => simp at hj
       case c2 => intro u hu; simp at hu; subst hu; rfl
       case c3 => unfold maxLen; omega
       case c4 => omega
       case c5 => exact hb10.out.size
       . intro v'' w1 hown' hgrow _
         have hown2 : Hid (w1.ownsRow w.heap.size 69 1 v'' (sp ++ [(a, k)]).length ((sp ++ [(a, k)]).map (qcM A c))) := by
           show w1.ownsRow _ _ _ _ _ _
           rw [hA.out, qmm, List.length_append, hpv.out]
           exact hown'
         have hb3 : Hid (Below w.heap.size w w1) := hb10.out.grown hgrow hb10.out.size (qhZ hownB.out)
         have hsp2 : Hid (∀ x ∈ sp ++ [(a, k)], x.1 <= x.2 /\ x.2 <= N) := fun x hx => by
           rcases List.mem_append.1 hx with hx | hx
           . exact hsp.out x hx
           . rw [List.mem_singleton] at hx; subst hx; exact ⟨ha, hk⟩
         clear hown' hgrow
         go_wp2_with fail
         go_roundw
         case rel => exact ⟨k + 1, k + 1, _, sp ++ [(a, k)], rfl, by go_num, by go_num, by omega, Nat.le_refl _, by rw [List.length_append]; simp; omega, (by have h9 := hown2; rw [hA.out] at h9; exact h9), hcut9, hsp2, hb3⟩
         case measure => simp [intOf]; omega
     . have g1 : ((X.strOf (l.getD k ⟨0, [], 0⟩).text).toList == [46]) = false := by rw [htl]; simpa using hx
       have hcut9 := hid (hn.out hx)
       clear hx htl hd hn hcut
       generalize l.getD k ⟨0, [], 0⟩ = q at c0 c1 c2 hbx hb9 hown9 g1
       obtain ⟨qk, qt, qn⟩ := q
       dsimp only at c0 c1 c2 hbx hb9 hown9 g1
       have y1 := qaa _ _ 1 _ _ _ hbx
       replace hbx := hid hbx
       replace hb9 := hid hb9
       replace hown9 := hid hown9
       rw [hA.out]
       rw [hA.out] at hown9
       go_wp2_with fail
       go_roundw
       case rel => exact ⟨k + 1, a, _, sp, rfl, rfl, by go_num, by omega, by omega, by omega, hown9, hcut9, hsp, hb9⟩
       case measure => simp [intOf]; omega
   . obtain rfl : k = N := by omega
     have hlast : Hid ((sp ++ [(a, k)]).map (spanL l) = cutL l) := by
       have h1 := hN.out
       have h2 := hcut.out
       rw [<- h1] at h2 ⊢
       exact qpa h2
     have hpv : qcM A c (a, k) = .slice (if c = a then A else A.map (·.add (a * 3))) (k - a) (c - a) := rfl
     obtain ⟨E, hE⟩ : ∃ E, (if c = a then A else A.map (·.add (a * 3))) = E := ⟨_, rfl⟩
     rw [hE] at hpv
     have hb2 := X.qab wr (.cells #[.slice E (k - a) (c - a)] 69)
     have hownB := hid (qfC hown.out hb2)
     have hb10 := hid (hB.out.trans (hb2.mono hB.out.size))
     have hbx2 := World.alloc_heap_new wr (.cells #[.slice E (k - a) (c - a)] 69)
     replace hbx2 := hid hbx2
     replace hpv := hid hpv
     clear hb2 hcut
     have hac : (a : Int) <= k := by omega
     have hkc : (k : Int) <= c := by omega
     have hsl2 : sp.length + 1 <= 1000000001 := by omega
     go_wp2_with (at_builtin; refine wpList_append_own _ rfl _ _ 72 rfl w.heap.size 69 i0 (.slice none 0 0) 1 24 Tryz.underlying72 hi.out hz0.out hz1.out hz2.out rfl (by decide) _ _ _ rfl hownB.out ⟨wr.heap.size, 0, none⟩ 1 1 [.slice E (k - a) (c - a)] rfl rfl ?c1 ?c2 ?c3 ?c4 ?c5 ?_)
     case c1 =>
       intro j u hj
       have x0 := qaa _ _ 0 _ _ _ hbx2.out
       match j, hj with
       | 0, hj => cases hj; exact x0
       | j + 1, hj => simp at hj
     case c2 => intro u hu; simp at hu; subst hu; rfl
     case c3 => unfold maxLen; omega
     case c4 => omega
     case c5 => exact hb10.out.size
     . intro v'' w1 hown' hgrow _
       have hown2 : Hid (w1.ownsRow w.heap.size 69 1 v'' (sp ++ [(a, k)]).length ((sp ++ [(a, k)]).map (qcM A c))) := by
         show w1.ownsRow _ _ _ _ _ _
         rw [qmm, List.length_append, hpv.out]
         exact hown'
       have hb3 : Hid (Below w.heap.size w w1) := hb10.out.grown hgrow hb10.out.size (qhZ hownB.out)
       have hsp2 : Hid (∀ x ∈ sp ++ [(a, k)], x.1 <= x.2 /\ x.2 <= k) := fun x hx => by
         rcases List.mem_append.1 hx with hx | hx
         . exact hsp.out x hx
         . rw [List.mem_singleton] at hx; subst hx; exact ⟨ha, Nat.le_refl _⟩
       clear hown' hgrow
       go_wp2_with fail
       go_ret
       exact ⟨_, sp ++ [(a, k)], rfl, hb3.out, hown2.out, hlast.out, hsp2.out⟩
end Go.Proofs.YtjnfhebbphdchaaGreatDoor.Pg
