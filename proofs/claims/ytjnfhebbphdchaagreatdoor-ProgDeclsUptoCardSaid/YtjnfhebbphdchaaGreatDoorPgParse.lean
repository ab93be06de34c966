/-
  A piece that begins with 'def'. Conditions: the tokens can be read, and are right; the variables that are read lie as laid.
  prog.readers:
  (*draft).read:
  prog.Parse:
-/
import Derived.Test.YtjnfhebbphdchaaGreatDoorPgDraft
import Derived.Test.YtjnfhebbphdchaaGreatDoorPaToks
import Derived.MapKept
import Derived.ChangeMaps5
import Derived.Test.YtjnfhebbphdchaaGreatDoorLxLex
set_option maxHeartbeats 4000000
set_option maxRecDepth 100000
open Go.Lib (hid)
namespace Go.Proofs.YtjnfhebbphdchaaGreatDoor.Pg
open Go.RowKit Go.Shelf Go.Tm Go.Lx Go.Maps Go.Proofs.YtjnfhebbphdchaaGreatDoor.Pa
attribute [local go_sem] Oper.semAt_some
theorem qtm {W : World} {b : Nat} {x y : ByteArray} (h : W.heap[b]? = some (.cells #[.string x, .string y] 9 (0, 0))) : Txts W (some ⟨b, 0, none⟩) [x, y] := fun _ => by
 refine ⟨b, 0, rfl, World.lt_of_get h, fun j hj => ?_⟩
 rw [Nat.zero_add, qaa W b j _ _ _ h]
 match j, hj with
 | 0, _ => rfl
 | 1, _ => rfl
 | j + 2, hj => simp at hj; omega
theorem qpn {W : World} {B : Nat} {A : Option Addr} {l : List Tok} (h : X.Toks W B A l) (n : Nat) : X.Toks W B A (l.take n) := fun hn => by
 obtain ⟨b, off, hA, hb, hj⟩ := h (by intro e; subst e; simp at hn)
 refine ⟨b, off, hA, hb, fun j hj2 => ?_⟩
 have h2 : j < n /\ j < l.length := by rw [List.length_take] at hj2; omega
 have := hj j h2.2
 have e : (l.take n).getD j ⟨0, [], 0⟩ = l.getD j ⟨0, [], 0⟩ := by rw [List.getD_eq_getElem?_getD, List.getElem?_take_of_lt h2.1, List.getD_eq_getElem?_getD]
 rw [e]; exact this
theorem qjS (l : List Tok) (k : Nat) : spanL l (k, l.length) = l.drop k := by
 unfold spanL
 rw [List.take_length]
theorem qns {l : List Tok} (h : X.Short l) (k : Nat) : X.Short (l.drop k) := fun j => by
 have := h (k + j)
 rw [List.getD_eq_getElem?_getD] at this ⊢
 rwa [List.getElem?_drop]
theorem qpo (bm : Nat) (p : P) (A : Option Addr) (r : List Tok) (c : Nat) (w : World) (hE : EnvP w) (hD : DrE w bm p) (hU : X.Toks w w.heap.size A r) (hS : X.Short r) (hr : ∀ x ∈ r, Go.Lx.qai x = true) (hl : r.length <= 1000000000) (hcap : r.length <= c) (_ : c <= 9223372036854775807) :
   Calls Tryz.prog 96 #[.pointer (some ⟨bm, 0, none⟩), .slice A r.length c] w (qcR bm (defT p r) w) := by
 obtain ⟨I, C, F, xs, h⟩ := hD
 have hlt := h.lt
 have hbm : bm <= w.heap.size := Nat.le_of_lt hlt
 obtain ⟨N, hN⟩ : ∃ N, r.length = N := ⟨_, rfl⟩
 by_cases hN2 : N < 2
 . have ho : Hid (defT p r = .inr 2) := by
     show defT p r = _
     unfold defT
     rw [if_neg]
     intro hf
     obtain ⟨a, b, e, _⟩ := qtg hf
     have := congrArg List.length e
     rw [List.length_take] at this
     simp at this
     omega
   have g1 : decide ((N : Int) < 2) = true := decide_eq_true (by omega)
   rw [hN] at hl hcap ⊢
   have hbmh := hid hbm
   clear h hU hE hS hr hN hlt hbm
   go_enter Tryz.func96, Tryz.ntmps96
   go_wp2_with fail
   go_ret
   refine ⟨(Below.refl _ w).mono hbmh.out, mk_of (Below.refl _ w), ?_⟩
   rw [ho.out]; rfl
 . obtain ⟨b, off, rfl, hb, hcells⟩ := hU (by intro e; subst e; simp at hN; omega)
   have hb1 := X.qab w (.cells #[.string ⟨#[97, 32, 110, 97, 109, 101]⟩, .string ⟨#[61]⟩] 9)
   have hx1 := World.alloc_heap_new w (.cells #[.string ⟨#[97, 32, 110, 97, 109, 101]⟩, .string ⟨#[61]⟩] 9)
   obtain ⟨W1, hW1⟩ : ∃ W, w.alloc (.cells #[.string ⟨#[97, 32, 110, 97, 109, 101]⟩, .string ⟨#[61]⟩] 9) = W := ⟨_, rfl⟩
   rw [hW1] at hb1 hx1
   have htl : (r.take 2).length = 2 := by rw [List.length_take]; omega
   have kf := qiL (some ⟨b, off, none⟩) (r.take 2) c (some ⟨w.heap.size, 0, none⟩) [⟨#[97, 32, 110, 97, 109, 101]⟩, ⟨#[61]⟩] 2 W1 (qpn (hU.later hb1) 2) (qtm hx1) (by omega)
   rw [qqW (fun x hx => hr x (List.mem_of_mem_take hx)), htl] at kf
   obtain ⟨f, hf⟩ : ∃ f, fitsF (r.take 2) [.nm, .tx [61]] = f := ⟨_, rfl⟩
   rw [hf] at kf
   have g1 : decide ((N : Int) < 2) = false := decide_eq_false (by omega)
   have g2 : (2 : Int) <= c := by omega
   rw [hN] at hcap ⊢
   have hbmh := hid hbm
   replace hb1 := hid hb1
   replace hx1 := hid hx1
   replace kf := hid kf
   replace hf := hid hf
   cases f with
   | false =>
     have ho : Hid (defT p r = .inr 2) := by
       show defT p r = _
       unfold defT
       rw [if_neg (by rw [hf.out]; simp)]
     clear h hU hE hS hr hN hlt hbm htl hl hcells
     go_enter Tryz.func96, Tryz.ntmps96
     go_wp2_with fail
     replace hW1 := hid hW1
     refine kf.out.mono ?_
     rintro e w2 ⟨rfl, hb2⟩
     have hb9 := hid (hb1.out.trans (hb2.mono hb1.out.size))
     clear hb2 kf
     go_wp2_with fail
     go_ret
     refine ⟨hb9.out.mono hbmh.out, mk_of hb9.out, ?_⟩
     rw [ho.out]; rfl
   | true =>
     by_cases hc2 : c = 2
     . have hN3 : N = 2 := by omega
       subst hc2
       subst hN3
       have hdr : r.drop 2 = [] := by rw [List.drop_eq_nil_iff]; omega
       have ho : Hid (defT p r = .inr 2) := by
         show defT p r = _
         unfold defT
         rw [if_pos hf.out, hdr, qcS ex4, if_pos (by decide)]
       clear h hU hS hr hN hlt hbm htl hl hcells hdr g1 g2
       replace hE := hid hE
       go_enter Tryz.func96, Tryz.ntmps96
       go_wp2_with fail
       replace hW1 := hid hW1
       refine kf.out.mono ?_
       rintro e w2 ⟨rfl, hb2⟩
       have hb9 := hid (hb1.out.trans (hb2.mono hb1.out.size))
       clear hb2 kf
       have kt := hid (fun A9 => qeN A9 [] 0 w2 (hE.out.later hb9.out) (X.Toks.nil _ _ _) (fun j => by show (0 : Nat) <= _; omega) (by decide))
       go_wp2_with fail
       refine (kt.out _).mono ?_
       rintro e w3 ⟨hb3, ho3⟩
       have hb7 := hid (hb9.out.trans (hb3.mono hb9.out.size))
       clear hb3 kt
       rcases ho3 with ⟨t, B, d, ht, _, rfl, _⟩ | ⟨n, _, ht, rfl⟩
       . exact absurd (qiu ht ex4).2 (by decide)
       . obtain ⟨_, rfl⟩ := qiu ht ex4
         clear ht
         unfold noV
         have hb6 := hid (hb7.out.alloc hb7.out.size (.cells #[.int .i64 0, .string ⟨#[]⟩, .int .i64 0, .slice none 0 0] 26))
         go_wp2_with fail
         go_ret
         refine ⟨hb6.out.mono hbmh.out, mk_of hb6.out, ?_⟩
         rw [ho.out]; rfl
     . have g3 : (2 : Int) <= N := by omega
       have g4 : (0 : Int) < N := by omega
       have g5 : 0 < N := by omega
       have hsp := qeW (c := c) (x := (2, N)) hU (by omega) (show 2 <= N by omega) (by omega)
       rw [<- hN, qjS] at hsp
       dsimp only at hsp
       rw [if_neg hc2, Option.map_some, Addr.add_lit] at hsp
       have hdl : (r.drop 2).length = N - 2 := by rw [List.length_drop, hN]
       have hsd := qns hS 2
       have hc0 := (hcells 0 (by omega)).2.1
       have s0 : (X.strOf (r.getD 0 ⟨0, [], 0⟩).text).size <= 9223372036854775807 := by rw [X.qbE]; have : (r.getD 0 ⟨0, [], 0⟩).text.length <= 140737488355328 := hS 0; omega
       rw [Nat.zero_mul, Nat.add_zero] at hc0
       have htx : tx r 0 = X.strOf (r.getD 0 ⟨0, [], 0⟩).text := rfl
       have hres := hid (fun (t : Go.Tm.T) (n : Nat) (ht : Pa.Told (r.drop 2) t n) => (show defT p r = if n ≠ 0 then .inr n else if t.kind ≠ 3 then .inr 2 else if p.defs.length = 32 then .inr 1 else .inl { p with defs := p.defs ++ [⟨X.strOf (r.getD 0 ⟨0, [], 0⟩).text, t⟩] } by unfold defT; rw [if_pos hf.out, qcS ht, htx]))
       have kt := hid (fun (W : World) (hb : Below w.heap.size w W) => qeN (some ⟨b, off + 2 * 3, none⟩) (r.drop 2) (c - 2) W (hE.later hb) (hsp.later hb) hsd (by omega))
       rw [hdl] at kt
       have hq := hid (fun (W : World) (hbW : Below w.heap.size w W) => (hbW.cell (p := ⟨b, off + 1, none⟩) hb).trans hc0)
       obtain ⟨FA, fc, rfl, _, _⟩ := qbe h.of_
       have hq2 := hid (fun (W : World) (hb : Below w.heap.size w W) => (show W.cell? ⟨bm, 2, none⟩ = some (.slice FA p.defs.length fc) from qaa _ _ 2 _ _ _ (h.later hb).box))
       have hf2 := hid (fun (W : World) (hb : Below w.heap.size w W) => (show W.frozen? ⟨bm, 2, none⟩ = false from qac (h.later hb).box 2))
       have hDl := hid (fun (W : World) (hb : Below w.heap.size w W) => h.later hb)
       have hle := hid h.ld
       have hlow := hid (fun (k : Nat) (hk : w.heap.size < k) => (show bm < k /\ I.ownBlock ≠ some k /\ C.ownBlock ≠ some k /\ (Value.slice FA p.defs.length fc).ownBlock ≠ some k from
         ⟨by omega, fun e => by have := (qaU h.oi e).2; omega, fun e => by have := (qaU h.oc e).2; omega, fun e => by have := (qaU h.of_ e).2; omega⟩))
       obtain ⟨q, hqe⟩ : ∃ q, X.strOf (r.getD 0 ⟨0, [], 0⟩).text = q := ⟨_, rfl⟩
       rw [hqe] at hres hq s0
       obtain ⟨R, hRe⟩ : ∃ R, r.drop 2 = R := ⟨_, rfl⟩
       rw [hRe] at hres kt
       replace s0 := hid s0
       replace hE := hid hE
       clear h hU hS hr hN hlt hbm htl hl hcells hsp hdl hsd hc0 htx hqe hRe hf
       obtain ⟨OUT, hOUT⟩ : ∃ o, defT p r = o := ⟨_, rfl⟩
       rw [hOUT] at hres ⊢
       clear hOUT
       go_enter Tryz.func96, Tryz.ntmps96
       go_wp2_with fail
       replace hW1 := hid hW1
       refine kf.out.mono ?_
       rintro e w2 ⟨rfl, hb2⟩
       have hb9 := hid (hb1.out.trans (hb2.mono hb1.out.size))
       clear hb2 kf
       replace kt := hid (kt.out w2 hb9.out)
       go_wp2_with fail
       refine kt.out.mono ?_
       rintro e w3 ⟨hb3, ho3⟩
       have hb7 := hid (hb9.out.trans (hb3.mono hb9.out.size))
       have hsz2 := hid hb9.out.size
       have hsz3 := hid hb3.size
       clear hb3 kt
       rcases ho3 with ⟨t, B, d, ht, _, rfl, hT⟩ | ⟨n, hn, ht, rfl⟩
       . have hr2 := hres.out t 0 ht
         rw [if_neg (by decide)] at hr2
         clear ht hres
         unfold tmV
         have x9 := World.alloc_heap_new w3 (.cells #[.int .i64 t.kind, .string t.name, .int .i64 t.num, .slice B t.kids.length d] 26)
         have hb4 := X.qab w3 (.cells #[.int .i64 t.kind, .string t.name, .int .i64 t.num, .slice B t.kids.length d] 26)
         obtain ⟨W4, hW4⟩ : ∃ W, w3.alloc (.cells #[.int .i64 t.kind, .string t.name, .int .i64 t.num, .slice B t.kids.length d] 26) = W := ⟨_, rfl⟩
         rw [hW4] at x9 hb4
         have hb6 := hb7.out.trans (hb4.mono hb7.out.size)
         have hT4 : TmV W4.drew (FarB W4.drew bm I C (.slice FA p.defs.length fc)) t B d := hT.kept (fun k hk => by
             have h1 := hlow.out k (by have := hsz2.out; omega)
             exact ⟨h1.1, (show k < W4.heap.size by have := hb4.size; omega), h1.2⟩) (fun k hk => hb4.block k hk.2)
         have p0 := qaa W4 w3.heap.size 0 _ _ _ x9
         have p1 := qaa W4 w3.heap.size 1 _ _ _ x9
         have p2 := qaa W4 w3.heap.size 2 _ _ _ x9
         have p3 := qaa W4 w3.heap.size 3 _ _ _ x9
         have c0 := hq.out W4 hb6
         have f2 := hq2.out W4 hb6
         have z2 := hf2.out W4 hb6
         have hb5 : Below w.heap.size w W4.drew := hb6.drew
         have hD5 := hDl.out W4.drew hb5
         replace x9 := hid x9
         clear hT hq hq2 hf2 hDl hb4
         by_cases hk : t.kind = 3
         . rw [if_neg (by rw [hk]; decide)] at hr2
           have gk : (t.kind != 3) = false := by rw [hk]; rfl
           by_cases hfull : p.defs.length = 32
           . rw [if_pos hfull] at hr2
             rw [hfull] at f2
             have kA := hid (qss bm 2 FA fc q t.kind t.name t.num B t.kids.length d W4.drew f2 hD5.lt)
             clear hD5 hT4 hfull hk
             replace hb5 := hid hb5
             replace hb6 := hid hb6
             replace hr2 := hid hr2
             go_wp2_with fail
             go_still_tail 9, (by kernel_rfl)
             go_wp2_with fail
             refine kA.out.mono ?_
             rintro e w5 ⟨rfl, hb8⟩
             have hb10 := hid (hb5.out.trans (hb8.mono hb5.out.size))
             clear hb8 kA
             go_wp2_with fail
             go_ret
             refine ⟨hb10.out.mono hbmh.out, mk_of hb10.out, ?_⟩
             rw [hr2.out]; rfl
           . rw [if_neg hfull] at hr2
             have hl32 : p.defs.length < 32 := by have := hle.out; omega
             have kA := hid (qqV bm 2 p.defs.length FA fc (xs.flatMap defC) q t.kind t.name t.num B t.kids.length d W4.drew f2 z2 hD5.of_ hl32 hD5.lt)
             have kD := hid (fun w' ha => hD5.addF (x := (⟨q, t⟩, B, d)) (w' := w') hl32 s0.out hT4 ha)
             clear hD5 hT4 hfull hk hl32
             replace hb5 := hid hb5
             replace hb6 := hid hb6
             replace hr2 := hid hr2
             go_wp2_with fail
             go_still_tail 9, (by kernel_rfl)
             go_wp2_with fail
             refine kA.out.mono ?_
             rintro e w5 ⟨rfl, ha5⟩
             have hD9 := hid (kD.out w5 ha5)
             clear ha5 kA
             go_wp2_with fail
             go_ret
             refine ⟨(hb5.out.mono hbmh.out).trans hD9.out.2.1, (mk_of hb5.out).trans hD9.out.2.2, ?_⟩
             rw [hr2.out]
             exact ⟨rfl, hD9.out.1⟩
         . rw [if_pos hk] at hr2
           have gk : (t.kind != 3) = true := by simpa using hk
           clear hD5 hT4
           replace hb5 := hid hb5
           replace hb6 := hid hb6
           replace hr2 := hid hr2
           go_wp2_with fail
           go_ret
           refine ⟨hb6.out.mono hbmh.out, mk_of hb6.out, ?_⟩
           rw [hr2.out]; rfl
       . have hr2 := hres.out T0 n ht
         have hn0 : n ≠ 0 := by omega
         rw [if_pos hn0] at hr2
         have gn : ((n : Int) != 0) = true := by rw [bne_iff_ne]; omega
         clear ht hn hres hn0
         unfold noV
         have hb6 := hid (hb7.out.alloc hb7.out.size (.cells #[.int .i64 0, .string ⟨#[]⟩, .int .i64 0, .slice none 0 0] 26))
         replace hr2 := hid hr2
         go_wp2_with fail
         go_ret
         refine ⟨hb6.out.mono hbmh.out, mk_of hb6.out, ?_⟩
         rw [hr2.out]; rfl
end Go.Proofs.YtjnfhebbphdchaaGreatDoor.Pg
namespace Go.Proofs.YtjnfhebbphdchaaGreatDoor.Pg
open Go.RowKit Go.Shelf Go.Tm Go.Lx Go.Maps Go.Proofs.YtjnfhebbphdchaaGreatDoor.Pa
open Go.ChangeMaps (setBlock)
attribute [local go_sem] Oper.semAt_some
theorem qsv {P : Program} {w : World} {t kt et : TypeId} {b clock : Nat} {es : Array MapEntry} {s : ByteArray} {v : Value} (ht : P.underlying t = some (.map kt et)) (hk : P.underlying kt = some .string) (hb : w.heap[b]? = some (.map es clock))
   (hn : Instr.findNow .string (.string s) es.toList 0 = some none) : (Instr.mapUpdate t (.map (some b)) (.string s) v).run P w = .ok () { w with heap := w.heap.setIfInBounds b (.map (es.push ⟨.string s, v, clock⟩) (clock + 1)) } := by
 simp [Instr.mapUpdate, run_underlying ht, MapKept.run_getObj_map hb, MapKept.run_checkKey (k := .string s) hk (by simp [MapKept.IsKey]), MapKept.run_findKey hk hn, MapKept.run_setObj_map _ hb, Result.andThen]
theorem qpp {P : Program} {w : World} {t kt et : TypeId} {b clock : Nat} {es : Array MapEntry} {s : ByteArray} {v : Value} (ht : P.underlying t = some (.map kt et)) (hk : P.underlying kt = some .string) (hb : w.heap[b]? = some (.map es clock))
   (hn : Instr.findNow .string (.string s) es.toList 0 = some none) : ∃ w', (Instr.mapUpdate t (.map (some b)) (.string s) v).run P w = .ok () w' /\ w'.heap[b]? = some (.map (es.push ⟨.string s, v, clock⟩) (clock + 1)) /\ Below b w w' :=
 ⟨_, qsv ht hk hb hn, (MapKept.heap_set hb).1, ⟨rfl, rfl, rfl, by simp, fun k hk2 => (MapKept.heap_set hb).2 k (by omega)⟩⟩
theorem qcY {P : Program} {w : World} {t kt et : TypeId} {b clock i : Nat} {es : Array MapEntry} {s : ByteArray} {v : Value} (ht : P.underlying t = some (.map kt et)) (hk : P.underlying kt = some .string) (hb : w.heap[b]? = some (.map es clock))
   (hn : Instr.findNow .string (.string s) es.toList 0 = some (some (i, v))) : (Instr.lookup t (.map (some b)) (.string s) true).run P w = .ok (.tuple #[v, .bool true]) w := by
 simp [Instr.lookup, run_underlying ht, MapKept.run_getObj_map hb, MapKept.run_checkKey (k := .string s) hk (by simp [MapKept.IsKey]), MapKept.run_findKey hk hn, Result.andThen]
theorem qjT {P : Program} {w : World} {t kt et : TypeId} {b clock : Nat} {es : Array MapEntry} {s : ByteArray} {z : Value} (ht : P.underlying t = some (.map kt et)) (hk : P.underlying kt = some .string) (hb : w.heap[b]? = some (.map es clock))
   (hz : (zeroValue et).run P w = .ok z w) (hn : Instr.findNow .string (.string s) es.toList 0 = some none) : (Instr.lookup t (.map (some b)) (.string s) true).run P w = .ok (.tuple #[z, .bool false]) w := by
 simp [Instr.lookup, run_underlying ht, MapKept.run_getObj_map hb, MapKept.run_checkKey (k := .string s) hk (by simp [MapKept.IsKey]), MapKept.run_findKey hk hn, hz, Result.andThen]
def ents : Array MapEntry := #[⟨.string ⟨#[105, 110, 112, 117, 116]⟩, .func (.func 94) #[] #[], 0⟩, ⟨.string ⟨#[99, 101, 108, 108]⟩, .func (.func 95) #[] #[], 1⟩, ⟨.string ⟨#[100, 101, 102]⟩, .func (.func 96) #[] #[], 2⟩]
theorem qpq : Instr.findNow .string (.string ⟨#[105, 110, 112, 117, 116]⟩) ents.toList 0 = some (some (0, .func (.func 94) #[] #[])) := by rfl
theorem qjU : Instr.findNow .string (.string ⟨#[99, 101, 108, 108]⟩) ents.toList 0 = some (some (1, .func (.func 95) #[] #[])) := by rfl
theorem qmn : Instr.findNow .string (.string ⟨#[100, 101, 102]⟩) ents.toList 0 = some (some (2, .func (.func 96) #[] #[])) := by rfl
theorem qpr {s : ByteArray} (h1 : s ≠ ⟨#[105, 110, 112, 117, 116]⟩) (h2 : s ≠ ⟨#[99, 101, 108, 108]⟩) (h3 : s ≠ ⟨#[100, 101, 102]⟩) : Instr.findNow .string (.string s) ents.toList 0 = some none := by
 have hb : ∀ k : ByteArray, s ≠ k -> (s == k) = false := fun k hk => by
   show (s.data == k.data) = false
   rw [beq_eq_false_iff_ne]
   exact fun e => hk (ByteArray.ext e)
 simp [ents, Instr.findNow, Instr.sameNow, hb _ h1, hb _ h2, hb _ h3]
theorem qlc (w : World) : Calls Tryz.prog 54 #[] w fun e w' => ∃ b, e = .returned (.map (some b)) /\ w'.heap[b]? = some (.map ents 3) /\ w.heap.size <= b /\ Below w.heap.size w w' := by
 have hm := run_makeMap (P := Tryz.prog) 122 w
 have b1 : (w.alloc (.map #[] 0)).heap[w.heap.size]? = some (.map #[] 0) := World.alloc_heap_new w _
 have hb1 := X.qab w (.map #[] 0)
 obtain ⟨W1, hW1⟩ : ∃ W, w.alloc (.map #[] 0) = W := ⟨_, rfl⟩
 rw [hW1] at b1 hm hb1
 obtain ⟨W2, u1, b2, hb2⟩ := qpp (P := Tryz.prog) (s := ⟨#[105, 110, 112, 117, 116]⟩) (v := .func (.func 94) #[] #[]) Tryz.underlying122 Tryz.underlying9 b1 rfl
 obtain ⟨W3, u2, b3, hb3⟩ := qpp (P := Tryz.prog) (s := ⟨#[99, 101, 108, 108]⟩) (v := .func (.func 95) #[] #[]) Tryz.underlying122 Tryz.underlying9 b2 rfl
 obtain ⟨W4, u3, b4, hb4⟩ := qpp (P := Tryz.prog) (s := ⟨#[100, 101, 102]⟩) (v := .func (.func 96) #[] #[]) Tryz.underlying122 Tryz.underlying9 b3 rfl
 have hend : Hid (W4.heap[w.heap.size]? = some (.map ents 3) /\ Below w.heap.size w W4) := ⟨b4, ((hb1.trans hb2).trans hb3).trans hb4⟩
 clear b1 b2 b3 b4 hb1 hb2 hb3 hb4
 go_enter Tryz.func54, Tryz.ntmps54
 go_wp2_with fail
 go_ret
 exact ⟨_, rfl, hend.out.1, Nat.le_refl _, hend.out.2⟩
end Go.Proofs.YtjnfhebbphdchaaGreatDoor.Pg
namespace Go.Proofs.YtjnfhebbphdchaaGreatDoor.Pg
open Go.RowKit Go.Shelf Go.Tm Go.Lx Go.Maps Go.Proofs.YtjnfhebbphdchaaGreatDoor.Pa
attribute [local go_sem] Oper.semAt_some
theorem qfT (p : P) (c : List Tok) (cs : List (List Tok)) : qaw p (c :: cs) = match qaL p c with
   | .inl q => qaw q cs
   | .inr e => .inr e := by rw [qaw]; cases qaL p c <;> rfl
theorem qcf {p q : P} {c : List Tok} {cs : List (List Tok)} (h : qaL p c = .inl q) : qaw p (c :: cs) = qaw q cs := by rw [qfT, h]
theorem qbv {p : P} {e : Nat} {c : List Tok} {cs : List (List Tok)} (h : qaL p c = .inr e) : qaw p (c :: cs) = .inr e := by rw [qfT, h]
theorem qqX {l : List Tok} {sp : List (Nat × Nat)} {k : Nat} (hk : k < sp.length) : (sp.map (spanL l)).drop k = spanL l (sp.getD k (0, 0)) :: (sp.map (spanL l)).drop (k + 1) := by
 rw [List.drop_eq_getElem_cons (by rw [List.length_map]; exact hk), List.getElem_map, List.getD_eq_getElem?_getD, List.getElem?_eq_getElem hk]; rfl
theorem qqY {l : List Tok} {x : Nat × Nat} {y : Tok} (h : y ∈ spanL l x) : y ∈ l := List.mem_of_mem_take (List.mem_of_mem_drop h)
theorem qia {l : List Tok} (h : X.Short l) (x : Nat × Nat) : X.Short (spanL l x) := fun j => by
 by_cases hj : j < (spanL l x).length
 . have h1 : (spanL l x).getD j ⟨0, [], 0⟩ = l.getD (x.1 + j) ⟨0, [], 0⟩ := by
     unfold spanL at hj ⊢
     rw [List.length_drop, List.length_take] at hj
     rw [List.getD_eq_getElem?_getD, List.getElem?_drop, List.getElem?_take_of_lt (by omega), List.getD_eq_getElem?_getD]
   rw [h1]; exact h _
 . rw [List.getD_eq_getElem?_getD, List.getElem?_eq_none (by omega)]; show (0 : Nat) <= _; omega
theorem qdZ {a : List UInt8} {s : ByteArray} (h : X.strOf a = s) : a = s.data.toList := by rw [<- h, X.qaP]
def qnt (bm : Nat) (o : P ⊕ Nat) (w0 : World) (e : Ending) (w' : World) : Prop := Below bm w0 w' /\ match o with
 | .inl q => e = .returned (.int .i64 0) /\ DrE w' bm q
 | .inr n => e = .returned (.int .i64 n)
theorem qiE (w0 : World) (A : Option Addr) (l : List Tok) (c : Nat) (sp : List (Nat × Nat)) (g cp bm : Nat) (p : P) (w : World) (hbm : w0.heap.size = bm) (hE : EnvP w0) (hU : X.Toks w0 w0.heap.size A l) (hS : X.Short l) (hr : ∀ x ∈ l, Go.Lx.qai x = true) (hl : l.length <= 1000000000) (hc : l.length <= c) (hc2 : c <= 9223372036854775807)
   (hsp : ∀ x ∈ sp, x.1 <= x.2 /\ x.2 <= l.length) (hg : g < w0.heap.size) (hV : ∀ j, j < sp.length -> w0.cell? ⟨g, j, none⟩ = some (qcM A c (sp.getD j (0, 0)))) (hsl : sp.length <= 1000000001) (hB : Below bm w0 w) (hD : DrE w bm p) :
   Calls Tryz.prog 29 #[.pointer (some ⟨bm, 0, none⟩), .slice (some ⟨g, 0, none⟩) sp.length cp] w (qnt bm (qaw p (sp.map (spanL l))) w0) := by
 have hbz : bm <= w.heap.size := by have := hB.size; omega
 have hEl := hid (fun (W : World) (hb : Below bm w0 W) => hE.later (w' := W) (by rw [hbm]; exact hb))
 have hUl := hid (fun (W : World) (hb : Below bm w0 W) => hU.later (w' := W) (by rw [hbm]; exact hb))
 have hVl := hid (fun (W : World) (hb : Below bm w0 W) (j : Nat) (hj : j < sp.length) => (hb.cell (p := ⟨g, j, none⟩) (by rw [<- hbm]; exact hg)).trans (hV j hj))
 have hspl := hid (fun (j : Nat) (hj : j < sp.length) => hsp _ (qbu (d := (0, 0)) hj))
 have hdm := hid (fun (k : Nat) (hk : k < sp.length) => qqX (l := l) hk)
 obtain ⟨ALL, hALL⟩ : ∃ L, sp.map (spanL l) = L := ⟨_, rfl⟩
 have hallen : ALL.length = sp.length := by rw [<- hALL, List.length_map]
 rw [hALL] at hdm ⊢
 obtain ⟨n, hn⟩ : ∃ n, sp.length = n := ⟨_, rfl⟩
 rw [hn] at hVl hspl hdm hsl hallen ⊢
 replace hr := hid hr
 replace hS := hid hS
 replace hD := hid hD
 replace hB := hid hB
 replace hbz := hid hbz
 replace hallen := hid hallen
 have km := hid (qlc w)
 clear hE hU hV hsp hg hALL hn hbm
 have hz0 : ∀ w, (zeroValue 124).run Tryz.prog w = .ok .nilFunc w := Tryz.zeroValue124
 replace hz0 := hid hz0
 go_enter Tryz.func29, Tryz.ntmps29
 go_wp2_with fail
 refine km.out.mono ?_
 rintro e w1 ⟨mb, rfl, hmb, hmlo, hb1⟩
 have hD1 : Hid (DrE w1 bm p) := by
   obtain ⟨I, C, F, xs, h⟩ := hD.out
   exact ⟨I, C, F, xs, h.later hb1⟩
 have hB1 : Hid (Below bm w0 w1) := hB.out.trans (hb1.mono hbz.out)
 replace hmb := hid hmb
 clear hD hB km hb1 hmlo
 go_wp2_with fail
 go_loopw [14] (fun i wr => ∃ (k : Nat) (p' : P), k <= n /\ i = .int .i64 k /\ Hid (qaw p ALL = qaw p' (ALL.drop k)) /\ Hid (DrE wr bm p') /\ Hid (Below bm w0 wr) /\ Hid (wr.heap[mb]? = some (Obj.map ents 3))) (fun i _ => n - (intOf i).toNat)
 case atStart => exact ⟨0, p, Nat.zero_le _, rfl, by rw [List.drop_zero]; exact rfl, hD1, hB1, hmb⟩
 case round =>
   obtain ⟨k, p', hk, rfl, hA, hD2, hB2, hM2⟩ := hrel
   by_cases hlt : k < n
   . have v0 := hVl.out wr hB2.out k hlt
     have hx := hspl.out k hlt
     have hT := hUl.out wr hB2.out
     have hdr := hdm.out k hlt
     have hA1 := hA.out
     rw [hdr] at hA1
     obtain ⟨x, hxe⟩ : ∃ x, sp.getD k (0, 0) = x := ⟨_, rfl⟩
     rw [hxe] at v0 hx hA1
     obtain ⟨a, z⟩ := x
     have hTp := qeW (c := c) (x := (a, z)) hT hc hx.1 hx.2
     have hpl := qiG (l := l) (x := (a, z)) hx.2
     have hps := qia hS.out (a, z)
     have hpr : ∀ y ∈ spanL l (a, z), Go.Lx.qai y = true := fun y hy => hr.out y (qqY hy)
     unfold qcM at v0
     dsimp only at v0 hTp hpl hx
     obtain ⟨E, hEe⟩ : ∃ E, (if c = a then A else A.map (·.add (a * 3))) = E := ⟨_, rfl⟩
     rw [hEe] at v0 hTp
     obtain ⟨cs, hcs⟩ : ∃ cs, spanL l (a, z) = cs := ⟨_, rfl⟩
     rw [hcs] at hTp hpl hps hpr hA1
     obtain ⟨N, hN⟩ : ∃ N, z - a = N := ⟨_, rfl⟩
     obtain ⟨Dc, hDd⟩ : ∃ D, c - a = D := ⟨_, rfl⟩
     rw [hN] at v0 hpl
     rw [hDd] at v0
     have hND : N <= Dc := by omega
     have hNl : N <= 1000000000 := by omega
     have hDm : Dc <= 9223372036854775807 := by omega
     obtain ⟨AT, hAT⟩ : ∃ L, ALL.drop (k + 1) = L := ⟨_, rfl⟩
     rw [hAT] at hA1
     clear hT hdr hxe hEe hcs hx hA hN hDd
     cases cs with
     | nil =>
       have hN0 : N = 0 := by rw [<- hpl]; rfl
       subst hN0
       have hfin := hid (hA1.trans (qbv (qlb p')))
       clear hTp hpl hps hpr hA1
       go_wp2_with fail
       go_ret
       refine ⟨hB2.out, ?_⟩
       rw [hfin.out]; rfl
     | cons y r =>
       have hN1 : N = r.length + 1 := by rw [<- hpl]; rfl
       have hNe : ((N : Int) == 0) = false := beq_eq_false_iff_ne.2 (by omega)
       have hNp : 0 < N := by omega
       have hNi : (0 : Int) < N := by omega
       have hNj : (1 : Int) <= N := by omega
       obtain ⟨b, off, rfl, hb, hcells⟩ := hTp (by simp)
       have c1 : wr.cell? ⟨b, off + 1, none⟩ = some (.string (X.strOf y.text)) := by have := (hcells 0 (by simp)).2.1; simpa using this
       have hT2 := qeW (c := Dc) (x := (1, N)) hTp (by rw [hpl]; exact hND) (show 1 <= N by omega) (by rw [hpl]; exact Nat.le_refl _)
       have hsd : spanL (y :: r) (1, N) = r := by
         have := qjS (y :: r) 1
         rw [hpl] at this
         exact this
       rw [hsd] at hT2
       dsimp only at hT2
       have hrl : r.length = N - 1 := by omega
       have hS2 : X.Short r := fun j => by have := hps (j + 1); rwa [List.getD_cons_succ] at this
       have hr2 : ∀ y' ∈ r, Go.Lx.qai y' = true := fun y' hy => hpr y' (List.mem_cons_of_mem _ hy)
       clear hcells hTp hps hpr hsd hpl
       have hNl1 : N - 1 <= 1000000000 := by omega
       have hcapr : N - 1 <= Dc - 1 := by omega
       have hD1m : Dc - 1 <= 9223372036854775807 := by omega
       have hDi : (1 : Int) <= Dc := by omega
       by_cases hD1 : Dc = 1
       . subst hD1
         rw [if_pos rfl] at hT2
         obtain rfl : N = 1 := by omega
         have hrl : r.length = 0 := by omega
         by_cases ht : y.text = [105, 110, 112, 117, 116]
         . have ek : X.strOf y.text = ⟨#[105, 110, 112, 117, 116]⟩ := by rw [ht]; rfl
           rw [ek] at c1
           have kc := qjR bm p' (some ⟨b, off, none⟩) r 0 wr hD2.out hT2 hS2 hr2 (by omega)
           rw [hrl] at kc
           clear hrl hN1
           have u9 := qcY (P := Tryz.prog) Tryz.underlying122 Tryz.underlying9 hM2.out qpq
           have h1r := qhX p' r ht
           clear ht
           obtain ⟨O, hO⟩ : ∃ O, inT p' r = O := ⟨_, rfl⟩
           rw [hO] at kc h1r
           cases O with
           | inl q =>
             have hA2 := hid (hA1.trans (qcf h1r))
             replace kc := hid kc
             clear hA1 h1r hO hT2 hS2 hr2
             go_wp2_with fail
             refine kc.out.mono ?_
             rintro e w5 ⟨hb5, hm5, rfl, hD5⟩
             have hB5 := hid (hB2.out.trans hb5)
             have hM5 := hid (hm5 mb ents 3 hM2.out)
             replace hD5 := hid hD5
             clear hb5 hm5 kc u9
             go_wp2_with fail
             go_roundw
             case rel => exact ⟨k + 1, q, by omega, by go_num, by rw [hAT]; exact hA2, hD5, hB5, hM5⟩
             case measure => simp [intOf]; omega
           | inr m =>
             have hm0 : m = 1 ∨ m = 2 := qbQ h1r
             have hmne : ((m : Int) != 0) = true := by rw [bne_iff_ne]; omega
             have hA2 := hid (hA1.trans (qbv h1r))
             replace kc := hid kc
             clear hA1 h1r hO hT2 hS2 hr2 hm0
             go_wp2_with fail
             refine kc.out.mono ?_
             rintro e w5 ⟨hb5, hm5, rfl⟩
             have hB5 := hid (hB2.out.trans hb5)
             clear hb5 hm5 kc u9
             go_wp2_with fail
             go_ret
             refine ⟨hB5.out, ?_⟩
             rw [hA2.out]; rfl
         . have hnin := ht
           clear ht
           by_cases ht : y.text = [99, 101, 108, 108]
           . have ek : X.strOf y.text = ⟨#[99, 101, 108, 108]⟩ := by rw [ht]; rfl
             rw [ek] at c1
             have kc := qml bm p' (some ⟨b, off, none⟩) r 0 wr hD2.out hT2 hS2 hr2 (by omega)
             rw [hrl] at kc
             clear hrl hN1
             have u9 := qcY (P := Tryz.prog) Tryz.underlying122 Tryz.underlying9 hM2.out qjU
             have h1r := qfS p' r ht
             clear ht
             obtain ⟨O, hO⟩ : ∃ O, cellT p' r = O := ⟨_, rfl⟩
             rw [hO] at kc h1r
             cases O with
             | inl q =>
               have hA2 := hid (hA1.trans (qcf h1r))
               replace kc := hid kc
               clear hA1 h1r hO hT2 hS2 hr2
               go_wp2_with fail
               refine kc.out.mono ?_
               rintro e w5 ⟨hb5, hm5, rfl, hD5⟩
               have hB5 := hid (hB2.out.trans hb5)
               have hM5 := hid (hm5 mb ents 3 hM2.out)
               replace hD5 := hid hD5
               clear hb5 hm5 kc u9
               go_wp2_with fail
               go_roundw
               case rel => exact ⟨k + 1, q, by omega, by go_num, by rw [hAT]; exact hA2, hD5, hB5, hM5⟩
               case measure => simp [intOf]; omega
             | inr m =>
               have hm0 : m = 1 ∨ m = 2 := qbQ h1r
               have hmne : ((m : Int) != 0) = true := by rw [bne_iff_ne]; omega
               have hA2 := hid (hA1.trans (qbv h1r))
               replace kc := hid kc
               clear hA1 h1r hO hT2 hS2 hr2 hm0
               go_wp2_with fail
               refine kc.out.mono ?_
               rintro e w5 ⟨hb5, hm5, rfl⟩
               have hB5 := hid (hB2.out.trans hb5)
               clear hb5 hm5 kc u9
               go_wp2_with fail
               go_ret
               refine ⟨hB5.out, ?_⟩
               rw [hA2.out]; rfl
           . have hncell := ht
             clear ht
             by_cases ht : y.text = [100, 101, 102]
             . have ek : X.strOf y.text = ⟨#[100, 101, 102]⟩ := by rw [ht]; rfl
               rw [ek] at c1
               have kc := qpo bm p' (some ⟨b, off, none⟩) r 0 wr (hEl.out wr hB2.out) hD2.out hT2 hS2 hr2 (by omega) (by omega) (by decide)
               rw [hrl] at kc
               clear hrl hN1
               have u9 := qcY (P := Tryz.prog) Tryz.underlying122 Tryz.underlying9 hM2.out qmn
               have h1r := qho p' r ht
               clear ht
               obtain ⟨O, hO⟩ : ∃ O, defT p' r = O := ⟨_, rfl⟩
               rw [hO] at kc h1r
               cases O with
               | inl q =>
                 have hA2 := hid (hA1.trans (qcf h1r))
                 replace kc := hid kc
                 clear hA1 h1r hO hT2 hS2 hr2
                 go_wp2_with fail
                 refine kc.out.mono ?_
                 rintro e w5 ⟨hb5, hm5, rfl, hD5⟩
                 have hB5 := hid (hB2.out.trans hb5)
                 have hM5 := hid (hm5 mb ents 3 hM2.out)
                 replace hD5 := hid hD5
                 clear hb5 hm5 kc u9
                 go_wp2_with fail
                 go_roundw
                 case rel => exact ⟨k + 1, q, by omega, by go_num, by rw [hAT]; exact hA2, hD5, hB5, hM5⟩
                 case measure => simp [intOf]; omega
               | inr m =>
                 have hm0 : m = 1 ∨ m = 2 := qbQ h1r
                 have hmne : ((m : Int) != 0) = true := by rw [bne_iff_ne]; omega
                 have hA2 := hid (hA1.trans (qbv h1r))
                 replace kc := hid kc
                 clear hA1 h1r hO hT2 hS2 hr2 hm0
                 go_wp2_with fail
                 refine kc.out.mono ?_
                 rintro e w5 ⟨hb5, hm5, rfl⟩
                 have hB5 := hid (hB2.out.trans hb5)
                 clear hb5 hm5 kc u9
                 go_wp2_with fail
                 go_ret
                 refine ⟨hB5.out, ?_⟩
                 rw [hA2.out]; rfl
             . have u9 := qjT (P := Tryz.prog) Tryz.underlying122 Tryz.underlying9 hM2.out (hz0.out _) (qpr (s := X.strOf y.text) (fun e => hnin (qdZ e)) (fun e => hncell (qdZ e)) (fun e => ht (qdZ e)))
               have hA2 := hid (hA1.trans (qbv (qhY p' r hnin hncell ht)))
               clear hA1 hT2 hS2 hr2 hnin hncell ht hrl hN1
               go_wp2_with fail
               go_ret
               refine ⟨hB2.out, ?_⟩
               rw [hA2.out]; rfl
       . rw [if_neg hD1, Option.map_some, Addr.add_lit] at hT2
         by_cases ht : y.text = [105, 110, 112, 117, 116]
         . have ek : X.strOf y.text = ⟨#[105, 110, 112, 117, 116]⟩ := by rw [ht]; rfl
           rw [ek] at c1
           have kc := qjR bm p' (some ⟨b, off + 3, none⟩) r (Dc - 1) wr hD2.out hT2 hS2 hr2 (by omega)
           rw [hrl] at kc
           clear hrl hN1
           have u9 := qcY (P := Tryz.prog) Tryz.underlying122 Tryz.underlying9 hM2.out qpq
           have h1r := qhX p' r ht
           clear ht
           obtain ⟨O, hO⟩ : ∃ O, inT p' r = O := ⟨_, rfl⟩
           rw [hO] at kc h1r
           cases O with
           | inl q =>
             have hA2 := hid (hA1.trans (qcf h1r))
             replace kc := hid kc
             clear hA1 h1r hO hT2 hS2 hr2
             go_wp2_with fail
             refine kc.out.mono ?_
             rintro e w5 ⟨hb5, hm5, rfl, hD5⟩
             have hB5 := hid (hB2.out.trans hb5)
             have hM5 := hid (hm5 mb ents 3 hM2.out)
             replace hD5 := hid hD5
             clear hb5 hm5 kc u9
             go_wp2_with fail
             go_roundw
             case rel => exact ⟨k + 1, q, by omega, by go_num, by rw [hAT]; exact hA2, hD5, hB5, hM5⟩
             case measure => simp [intOf]; omega
           | inr m =>
             have hm0 : m = 1 ∨ m = 2 := qbQ h1r
             have hmne : ((m : Int) != 0) = true := by rw [bne_iff_ne]; omega
             have hA2 := hid (hA1.trans (qbv h1r))
             replace kc := hid kc
             clear hA1 h1r hO hT2 hS2 hr2 hm0
             go_wp2_with fail
             refine kc.out.mono ?_
             rintro e w5 ⟨hb5, hm5, rfl⟩
             have hB5 := hid (hB2.out.trans hb5)
             clear hb5 hm5 kc u9
             go_wp2_with fail
             go_ret
             refine ⟨hB5.out, ?_⟩
             rw [hA2.out]; rfl
         . have hnin := ht
           clear ht
           by_cases ht : y.text = [99, 101, 108, 108]
           . have ek : X.strOf y.text = ⟨#[99, 101, 108, 108]⟩ := by rw [ht]; rfl
             rw [ek] at c1
             have kc := qml bm p' (some ⟨b, off + 3, none⟩) r (Dc - 1) wr hD2.out hT2 hS2 hr2 (by omega)
             rw [hrl] at kc
             clear hrl hN1
             have u9 := qcY (P := Tryz.prog) Tryz.underlying122 Tryz.underlying9 hM2.out qjU
             have h1r := qfS p' r ht
             clear ht
             obtain ⟨O, hO⟩ : ∃ O, cellT p' r = O := ⟨_, rfl⟩
             rw [hO] at kc h1r
             cases O with
             | inl q =>
               have hA2 := hid (hA1.trans (qcf h1r))
               replace kc := hid kc
               clear hA1 h1r hO hT2 hS2 hr2
               go_wp2_with fail
               refine kc.out.mono ?_
               rintro e w5 ⟨hb5, hm5, rfl, hD5⟩
               have hB5 := hid (hB2.out.trans hb5)
               have hM5 := hid (hm5 mb ents 3 hM2.out)
               replace hD5 := hid hD5
               clear hb5 hm5 kc u9
               go_wp2_with fail
               go_roundw
               case rel => exact ⟨k + 1, q, by omega, by go_num, by rw [hAT]; exact hA2, hD5, hB5, hM5⟩
               case measure => simp [intOf]; omega
             | inr m =>
               have hm0 : m = 1 ∨ m = 2 := qbQ h1r
               have hmne : ((m : Int) != 0) = true := by rw [bne_iff_ne]; omega
               have hA2 := hid (hA1.trans (qbv h1r))
               replace kc := hid kc
               clear hA1 h1r hO hT2 hS2 hr2 hm0
               go_wp2_with fail
               refine kc.out.mono ?_
               rintro e w5 ⟨hb5, hm5, rfl⟩
               have hB5 := hid (hB2.out.trans hb5)
               clear hb5 hm5 kc u9
               go_wp2_with fail
               go_ret
               refine ⟨hB5.out, ?_⟩
               rw [hA2.out]; rfl
           . have hncell := ht
             clear ht
             by_cases ht : y.text = [100, 101, 102]
             . have ek : X.strOf y.text = ⟨#[100, 101, 102]⟩ := by rw [ht]; rfl
               rw [ek] at c1
               have kc := qpo bm p' (some ⟨b, off + 3, none⟩) r (Dc - 1) wr (hEl.out wr hB2.out) hD2.out hT2 hS2 hr2 (by omega) (by omega) hD1m
               rw [hrl] at kc
               clear hrl hN1
               have u9 := qcY (P := Tryz.prog) Tryz.underlying122 Tryz.underlying9 hM2.out qmn
               have h1r := qho p' r ht
               clear ht
               obtain ⟨O, hO⟩ : ∃ O, defT p' r = O := ⟨_, rfl⟩
               rw [hO] at kc h1r
               cases O with
               | inl q =>
                 have hA2 := hid (hA1.trans (qcf h1r))
                 replace kc := hid kc
                 clear hA1 h1r hO hT2 hS2 hr2
                 go_wp2_with fail
                 refine kc.out.mono ?_
                 rintro e w5 ⟨hb5, hm5, rfl, hD5⟩
                 have hB5 := hid (hB2.out.trans hb5)
                 have hM5 := hid (hm5 mb ents 3 hM2.out)
                 replace hD5 := hid hD5
                 clear hb5 hm5 kc u9
                 go_wp2_with fail
                 go_roundw
                 case rel => exact ⟨k + 1, q, by omega, by go_num, by rw [hAT]; exact hA2, hD5, hB5, hM5⟩
                 case measure => simp [intOf]; omega
               | inr m =>
                 have hm0 : m = 1 ∨ m = 2 := qbQ h1r
                 have hmne : ((m : Int) != 0) = true := by rw [bne_iff_ne]; omega
                 have hA2 := hid (hA1.trans (qbv h1r))
                 replace kc := hid kc
                 clear hA1 h1r hO hT2 hS2 hr2 hm0
                 go_wp2_with fail
                 refine kc.out.mono ?_
                 rintro e w5 ⟨hb5, hm5, rfl⟩
                 have hB5 := hid (hB2.out.trans hb5)
                 clear hb5 hm5 kc u9
                 go_wp2_with fail
                 go_ret
                 refine ⟨hB5.out, ?_⟩
                 rw [hA2.out]; rfl
             . have u9 := qjT (P := Tryz.prog) Tryz.underlying122 Tryz.underlying9 hM2.out (hz0.out _) (qpr (s := X.strOf y.text) (fun e => hnin (qdZ e)) (fun e => hncell (qdZ e)) (fun e => ht (qdZ e)))
               have hA2 := hid (hA1.trans (qbv (qhY p' r hnin hncell ht)))
               clear hA1 hT2 hS2 hr2 hnin hncell ht hrl hN1
               go_wp2_with fail
               go_ret
               refine ⟨hB2.out, ?_⟩
               rw [hA2.out]; rfl
   . obtain rfl : k = n := by omega
     have hfin : Hid (qaw p ALL = .inl p') := by
       show qaw p ALL = _
       rw [hA.out, List.drop_eq_nil_iff.2 (by rw [hallen.out]; exact Nat.le_refl _)]; rfl
     go_wp2_with fail
     go_ret
     refine ⟨hB2.out, ?_⟩
     rw [hfin.out]
     exact ⟨rfl, hD2.out⟩
def set7 (W : World) (b : Nat) (v0 v1 v2 v3 v4 v5 v6 : Value) : World := ((((((W.setCell ⟨b, 0, none⟩ v0).setCell ⟨b, 1, none⟩ v1).setCell ⟨b, 2, none⟩ v2).setCell ⟨b, 3, none⟩ v3).setCell ⟨b, 4, none⟩ v4).setCell ⟨b, 5, none⟩ v5).setCell ⟨b, 6, none⟩ v6
def put4 (W : World) (b : Nat) (v3 v4 v5 v6 : Value) : World := (((W.setCell ⟨b, 3, none⟩ v3).setCell ⟨b, 4, none⟩ v4).setCell ⟨b, 5, none⟩ v5).setCell ⟨b, 6, none⟩ v6
section
variable {W : World} {b x n : Nat} {v0 v1 v2 v3 v4 v5 v6 u0 u1 u2 u3 u4 u5 u6 : Value} {ty : TypeId} {V : World}
theorem qea (h : x ≠ b) : (put4 W b v3 v4 v5 v6).heap[x]? = W.heap[x]? :=
 (((Below.heap_setCell _ _ _ _ h).trans (Below.heap_setCell _ _ _ _ h)).trans (Below.heap_setCell _ _ _ _ h)).trans (Below.heap_setCell _ _ _ _ h)
theorem qjV (h : W.heap[b]? = some (.cells #[v0, v1, v2, u3, u4, u5, u6] ty (0, 0))) : (put4 W b v3 v4 v5 v6).heap[b]? = some (.cells #[v0, v1, v2, v3, v4, v5, v6] ty (0, 0)) :=
 heap_setCell_same _ b 6 _ _ _ (heap_setCell_same _ b 5 _ _ _ (heap_setCell_same _ b 4 _ _ _ (heap_setCell_same W b 3 _ _ v3 h)))
theorem qfD (h : Below n V W) (hb : n <= b) : Below n V (put4 W b v3 v4 v5 v6) :=
 (((h.setCell (p := ⟨b, 3, none⟩) hb _).setCell (p := ⟨b, 4, none⟩) hb _).setCell (p := ⟨b, 5, none⟩) hb _).setCell (p := ⟨b, 6, none⟩) hb _
theorem qps : (put4 W b v3 v4 v5 v6).heap.size = W.heap.size := by simp [put4]
theorem qnu (h : x ≠ b) : (set7 W b v0 v1 v2 v3 v4 v5 v6).heap[x]? = W.heap[x]? :=
 (qea (W := ((W.setCell ⟨b, 0, none⟩ v0).setCell ⟨b, 1, none⟩ v1).setCell ⟨b, 2, none⟩ v2) h).trans (((Below.heap_setCell _ _ _ _ h).trans (Below.heap_setCell _ _ _ _ h)).trans (Below.heap_setCell _ _ _ _ h))
theorem qcZ (h : W.heap[b]? = some (.cells #[u0, u1, u2, u3, u4, u5, u6] ty (0, 0))) : (set7 W b v0 v1 v2 v3 v4 v5 v6).heap[b]? = some (.cells #[v0, v1, v2, v3, v4, v5, v6] ty (0, 0)) :=
 qjV (heap_setCell_same _ b 2 _ _ _ (heap_setCell_same _ b 1 _ _ _ (heap_setCell_same W b 0 _ _ v0 h)))
theorem qcs (h : Below n V W) (hb : n <= b) : Below n V (set7 W b v0 v1 v2 v3 v4 v5 v6) :=
 qfD (((h.setCell (p := ⟨b, 0, none⟩) hb _).setCell (p := ⟨b, 1, none⟩) hb _).setCell (p := ⟨b, 2, none⟩) hb _) hb
theorem qpt : (set7 W b v0 v1 v2 v3 v4 v5 v6).heap.size = W.heap.size := by simp [set7]
end
structure BxP (w W : World) : Prop where
 below : Below w.heap.size w W
 box : W.heap[w.heap.size]? = some (.cells #[.slice none 0 0, .slice none 0 0, .slice none 0 0, .int .i64 0, .string ⟨#[]⟩, .int .i64 0, .slice none 0 0] 28 (0, 0))
theorem BxP.later {w W W' : World} (h : BxP w W) (hb : Below W.heap.size W W') : BxP w W' :=
 ⟨h.below.trans (hb.mono h.below.size), (hb.block _ (World.lt_of_get h.box)).trans h.box⟩
theorem BxP.new (w : World) : BxP w (w.alloc (.cells #[.slice none 0 0, .slice none 0 0, .slice none 0 0, .int .i64 0, .string ⟨#[]⟩, .int .i64 0, .slice none 0 0] 28)) := ⟨X.qab _ _, World.alloc_heap_new w _⟩
theorem qib : ∀ (ds : List D) (j : Nat), j < ds.length -> (ds.flatMap declC)[j * 3]? = some (.string (ds.getD j d0).name) /\ (ds.flatMap declC)[j * 3 + 1]? = some (.string (ds.getD j d0).label) /\ (ds.flatMap declC)[j * 3 + 2]? = some (.int .i64 (ds.getD j d0).n)
 | d :: ds, 0, _ => ⟨rfl, rfl, rfl⟩
 | d :: ds, j + 1, h => by
   have ih := qib ds j (by simpa using h)
   have e : (d :: ds).flatMap declC = .string d.name :: .string d.label :: .int .i64 d.n :: ds.flatMap declC := rfl
   rw [e, List.getD_cons_succ, show (j + 1) * 3 = j * 3 + 1 + 1 + 1 from by omega]
   exact ih
theorem qjW : ∀ (ds : List D), (ds.flatMap declC).length = ds.length * 3
 | [] => rfl
 | d :: ds => by rw [List.flatMap_cons, List.length_append, qjW ds]; simp [declC]; omega
theorem qgl {W : World} {base c : Nat} {A : Option Addr} {ds : List D} (h : W.ownsRow base 67 3 (.slice A ds.length c) ds.length (ds.flatMap declC)) (hs : ∀ d ∈ ds, d.name.size <= 9223372036854775807 /\ d.label.size <= 9223372036854775807) : Decls W A c ds := by
 obtain ⟨_, h1 | ⟨g, cap, cur, hv, _, hg, h2, h3, h4, h5⟩⟩ := h
 . obtain ⟨h1, h0⟩ := h1
   injection h1 with e1 e2 e3
   subst e1; subst e3
   rw [List.length_eq_zero_iff.1 h0]
   exact Decls.nil W
 . injection hv with e1 e2 e3
   subst e1; subst e3
   refine ⟨h2, h3, hs, fun _ => ⟨g, 0, rfl, (Array.getElem?_eq_some_iff.1 hg).1, fun j hj => ?_⟩⟩
   have key : ∀ i u, (ds.flatMap declC)[i]? = some u -> W.cell? ⟨g, i, none⟩ = some u := fun i u hu => by
     have hi : i < ds.length * 3 := by
       have := (List.getElem?_eq_some_iff.1 hu).1
       rwa [qjW] at this
     have e : cur[i]? = some u := by
       rw [<- h5, List.getElem?_take_of_lt hi, Array.getElem?_toList] at hu
       exact hu
     rw [qaa W g i cur _ _ hg]
     exact e
   obtain ⟨c0, c1, c2⟩ := qib ds j hj
   rw [Nat.zero_add]
   exact ⟨key _ _ c0, key _ _ c1, key _ _ c2⟩
theorem qic : ∀ (xs : List FV) (j : Nat), j < xs.length -> ∃ x ∈ xs, x.1 = (xs.map (·.1)).getD j f0 /\ (xs.flatMap defC)[j * 5]? = some (.string x.1.name) /\ (xs.flatMap defC)[j * 5 + 1]? = some (.int .i64 x.1.t.kind) /\ (xs.flatMap defC)[j * 5 + 2]? = some (.string x.1.t.name) /\ (xs.flatMap defC)[j * 5 + 3]? = some (.int .i64 x.1.t.num) /\ (xs.flatMap defC)[j * 5 + 4]? = some (.slice x.2.1 x.1.t.kids.length x.2.2)
 | x :: xs, 0, _ => ⟨x, by simp, rfl, rfl, rfl, rfl, rfl, rfl⟩
 | x :: xs, j + 1, h => by
   obtain ⟨y, hy, ih⟩ := qic xs j (by simpa using h)
   refine ⟨y, List.mem_cons_of_mem _ hy, ?_⟩
   have e : (x :: xs).flatMap defC = .string x.1.name :: .int .i64 x.1.t.kind :: .string x.1.t.name :: .int .i64 x.1.t.num :: .slice x.2.1 x.1.t.kids.length x.2.2 :: xs.flatMap defC := rfl
   rw [e, List.map_cons, List.getD_cons_succ, show (j + 1) * 5 = j * 5 + 1 + 1 + 1 + 1 + 1 from by omega]
   exact ih
theorem qjX : ∀ (xs : List FV), (xs.flatMap defC).length = xs.length * 5
 | [] => rfl
 | d :: ds => by rw [List.flatMap_cons, List.length_append, qjX ds]; simp [defC]; omega
theorem qpu {W : World} {p : Nat -> Prop} {b o c : Nat} {A : Option Addr} : ∀ {t : Go.Tm.T}, p b -> W.cell? ⟨b, o, none⟩ = some (.int .i64 t.kind) -> W.cell? ⟨b, o + 1, none⟩ = some (.string t.name) -> W.cell? ⟨b, o + 2, none⟩ = some (.int .i64 t.num) -> W.cell? ⟨b, o + 3, none⟩ = some (.slice A t.kids.length c) -> TmV W p t A c -> qan W p b o t
 | .node k s n ks, hb, h0, h1, h2, h3, hT => by
   rw [qan]
   exact ⟨hb, hT.nsz, h0, h1, h2, A, c, h3, hT.row⟩
theorem qpv {W : World} {base c : Nat} {A : Option Addr} {xs : List FV} {fs : List Df} (hf : xs.map (·.1) = fs) (h : W.ownsRow base 60 5 (.slice A fs.length c) fs.length (xs.flatMap defC)) (hs : ∀ d ∈ fs, d.name.size <= 9223372036854775807) (hk : ∀ x ∈ xs, TmV W (· < W.heap.size) x.1.t x.2.1 x.2.2) : Defs W A c fs := by
 have hl : xs.length = fs.length := by rw [<- hf, List.length_map]
 obtain ⟨_, h1 | ⟨g, cap, cur, hv, _, hg, h2, h3, h4, h5⟩⟩ := h
 . obtain ⟨h1, h0⟩ := h1
   injection h1 with e1 e2 e3
   subst e1; subst e3
   rw [List.length_eq_zero_iff.1 h0]
   exact Defs.nil W
 . injection hv with e1 e2 e3
   subst e1; subst e3
   have hgl := (Array.getElem?_eq_some_iff.1 hg).1
   refine ⟨h2, h3, hs, fun _ => ⟨g, 0, rfl, hgl, fun j hj => ?_⟩⟩
   have key : ∀ i u, (xs.flatMap defC)[i]? = some u -> W.cell? ⟨g, i, none⟩ = some u := fun i u hu => by
     have hi : i < fs.length * 5 := by
       have := (List.getElem?_eq_some_iff.1 hu).1
       rwa [qjX, hl] at this
     have e : cur[i]? = some u := by
       rw [<- h5, List.getElem?_take_of_lt hi, Array.getElem?_toList] at hu
       exact hu
     rw [qaa W g i cur _ _ hg]
     exact e
   obtain ⟨x, hx, e0, c0, c1, c2, c3, c4⟩ := qic xs j (by omega)
   rw [hf] at e0
   rw [Nat.zero_add, <- e0]
   exact ⟨key _ _ c0, qpu hgl (key _ _ c1) (key _ _ c2) (key _ _ c3) (key _ _ c4) (hk x hx)⟩
theorem qaK {W : World} {base size n : Nat} {e : TypeId} {v : Value} {xs : List Value} (h : W.ownsRow base e size v n xs) : ∃ A c, v = .slice A n c := by
 obtain ⟨A, c, h1, _⟩ := qbe h
 exact ⟨A, c, h1⟩
theorem qpw {W : World} {base n c : Nat} {e : TypeId} {A : Option Addr} {xs : List Value} (h : W.ownsRow base e 1 (.slice A n c) n xs) (hn : 0 < n) : ∃ g cur, A = some ⟨g, 0, none⟩ /\ W.heap[g]? = some (.cells cur e (0, 0)) /\ ∀ i u, i < n -> xs[i]? = some u -> W.cell? ⟨g, i, none⟩ = some u := by
 obtain ⟨_, h1 | ⟨g, cap, cur, hv, _, hg, h2, h3, h4, h5⟩⟩ := h
 . omega
 . injection hv with e1 e2 e3
   subst e1
   refine ⟨g, cur, rfl, hg, fun i u hi hu => ?_⟩
   have e : cur[i]? = some u := by
     rw [<- h5, List.getElem?_take_of_lt (by omega), Array.getElem?_toList] at hu
     exact hu
   rw [qaa W g i cur _ _ hg]
   exact e
theorem qjY : ∀ l : List Tok, (cutL l).length <= l.length + 1
 | [] => by unfold cutL; simp
 | x :: l => by
   have ih := qjY l
   unfold cutL
   split
   . simp; omega
   . split
     . simp
     . rename_i c cs he
       rw [he] at ih
       simp at ih ⊢; omega
theorem qqZ {w5 w6 Wf : World} {bm bx : Nat} {q : P} {I C F : Value} {xs : List FV} {t : Go.Tm.T} {B : Option Addr} {d : Nat} (h : Dr w5 bm q I C F xs) (h6 : Below w5.heap.size w5 w6) (hsz : Wf.heap.size = w6.heap.size) (hbx : bx < bm) (hk : ∀ k, k ≠ bm -> k ≠ bx -> Wf.heap[k]? = w6.heap[k]?)
   (hT : TmV w6 (fun k => w5.heap.size < k /\ k < w6.heap.size) t B d) : ∃ x : PV, x.p = { q with body := t } /\ I = .slice x.I q.ins.length x.i /\ C = .slice x.C q.cells.length x.c /\ F = .slice x.F q.defs.length x.f /\ x.B = B /\ x.b = d /\ ProgAt Wf x := by
 have h9 := h.later h6
 have hbm := h.lt
 obtain ⟨IA, ic, rfl⟩ := qaK h.oi
 obtain ⟨CA, cc, rfl⟩ := qaK h.oc
 obtain ⟨FA, fc, rfl⟩ := qaK h.of_
 refine ⟨⟨{ q with body := t }, IA, ic, CA, cc, FA, fc, B, d⟩, rfl, rfl, rfl, rfl, rfl, rfl, ?_, ?_, ?_, ?_⟩
 . exact qgl (qal h9.oi fun g hg => hk g (by have := (qaU h9.oi hg).1; omega) (by have := (qaU h9.oi hg).1; omega)) h9.si
 . exact qgl (qal h9.oc fun g hg => hk g (by have := (qaU h9.oc hg).1; omega) (by have := (qaU h9.oc hg).1; omega)) h9.sc
 . exact qpv h9.fs (qal h9.of_ fun g hg => hk g (by have := (qaU h9.of_ hg).1; omega) (by have := (qaU h9.of_ hg).1; omega)) h9.sf
     (fun x hx => (h9.kids x hx).kept (fun k hk2 => by rw [hsz]; exact hk2.2.1) (fun k hk2 => hk k (by have := hk2.1; omega) (by have := hk2.1; omega)))
 . exact hT.kept (fun k hk2 => by rw [hsz]; exact hk2.2) (fun k hk2 => hk k (by have := hk2.1; omega) (by have := hk2.1; omega))
noncomputable def finT (o : P ⊕ Nat) (c : List Tok) : P ⊕ Nat := match o with
 | .inr e => .inr e
 | .inl p => if (tell c).2 ≠ 0 then .inr (tell c).2 else .inl { p with body := (tell c).1 }
theorem qpx {l : List Tok} (h : ¬ 96 < (cutL l).length - 1) : progT l = finT (qaw P0 (cutL l).dropLast) ((cutL l).getLastD []) := by
 unfold progT finT
 rw [if_neg h]
 cases qaw P0 (cutL l).dropLast <;> rfl
def qbF (s : ByteArray) (w : World) (e : Ending) (w' : World) : Prop := Below w.heap.size w w' /\ match qaZ s with
 | .inl q => ∃ x : PV, x.p = q /\ ProgAt w' x /\ e = .returned (.tuple #[.agg #[.slice x.I x.p.ins.length x.i, .slice x.C x.p.cells.length x.c, .slice x.F x.p.defs.length x.f, .int .i64 x.p.body.kind, .string x.p.body.name, .int .i64 x.p.body.num, .slice x.B x.p.body.kids.length x.b], .int .i64 0])
 | .inr n => e = .returned (.tuple #[.agg #[.slice none 0 0, .slice none 0 0, .slice none 0 0, .int .i64 0, .string ⟨#[]⟩, .int .i64 0, .slice none 0 0], .int .i64 n])
theorem qhb (s : ByteArray) (w : World) (hE : EnvP w) (hm : s.size <= 9223372036854775807) : Calls Tryz.prog 11 #[.string s] w (qbF s w) := by
 obtain ⟨W1, hW1⟩ : ∃ W, w.alloc (.cells #[.slice none 0 0, .slice none 0 0, .slice none 0 0, .int .i64 0, .string ⟨#[]⟩, .int .i64 0, .slice none 0 0] 28) = W := ⟨_, rfl⟩
 have hX := BxP.new w
 have hb1 := X.qab w (.cells #[.slice none 0 0, .slice none 0 0, .slice none 0 0, .int .i64 0, .string ⟨#[]⟩, .int .i64 0, .slice none 0 0] 28)
 rw [hW1] at hX hb1
 have kl := hid (X.qoN s W1 (hE.later hb1).s.lx hm)
 replace hE := hid hE
 replace hX := hid hX
 replace hb1 := hid hb1
 replace hW1 := hid hW1
 have hres : Hid (Tryz.f11.results = #[.cell 2 28, .tmp 3]) := by show _ = _; kernel_rfl
 clear hm
 go_enter Tryz.func11, Tryz.ntmps11
 go_wp2_with fail
 rw [hW1.out]
 refine kl.out.mono ?_
 rintro e w2 ⟨hb2, ho⟩
 have hX2 := hid (hX.out.later hb2)
 clear hX hb1 kl hb2
 rcases ho with ⟨h1, rfl⟩ | ⟨h1, h2, rfl⟩ | ⟨h1, l, A, c, h2, rfl, hU, hcl, hcm, _⟩
 . have ht : Hid (qaZ s = .inr 1) := by show qaZ s = _; unfold qaZ; rw [if_pos h1]
   clear h1
   have hr9 := hX2.out.box
   have f0 := qac hr9 0
   have f1 := qac hr9 1
   have f2 := qac hr9 2
   have f3 := qac hr9 3
   have f4 := qac hr9 4
   have f5 := qac hr9 5
   have f6 := qac hr9 6
   have g0 := qaa w2 w.heap.size 0 _ _ _ hr9
   have g1 := qaa w2 w.heap.size 1 _ _ _ hr9
   have g2 := qaa w2 w.heap.size 2 _ _ _ hr9
   have g3 := qaa w2 w.heap.size 3 _ _ _ hr9
   have g4 := qaa w2 w.heap.size 4 _ _ _ hr9
   have g5 := qaa w2 w.heap.size 5 _ _ _ hr9
   have g6 := qaa w2 w.heap.size 6 _ _ _ hr9
   have s9 := qcZ (v0 := .slice none 0 0) (v1 := .slice none 0 0) (v2 := .slice none 0 0) (v3 := .int .i64 0) (v4 := .string ⟨#[]⟩) (v5 := .int .i64 0) (v6 := .slice none 0 0) hr9
   have s0 := qaa _ w.heap.size 0 _ _ _ s9
   have s1 := qaa _ w.heap.size 1 _ _ _ s9
   have s2 := qaa _ w.heap.size 2 _ _ _ s9
   have s3 := qaa _ w.heap.size 3 _ _ _ s9
   have s4 := qaa _ w.heap.size 4 _ _ _ s9
   have s5 := qaa _ w.heap.size 5 _ _ _ s9
   have s6 := qaa _ w.heap.size 6 _ _ _ s9
   unfold set7 at s0 s1 s2 s3 s4 s5 s6
   have hend : Hid (qbF s w (.returned (.tuple #[.agg #[.slice none 0 0, .slice none 0 0, .slice none 0 0, .int .i64 0, .string ⟨#[]⟩, .int .i64 0, .slice none 0 0], .int .i64 1])) (set7 w2 w.heap.size (.slice none 0 0) (.slice none 0 0) (.slice none 0 0) (.int .i64 0) (.string ⟨#[]⟩) (.int .i64 0) (.slice none 0 0))) := ⟨qcs hX2.out.below (Nat.le_refl _), by rw [ht.out] <;> rfl⟩
   unfold set7 at hend
   replace hr9 := hid hr9
   replace s9 := hid s9
   go_wp2_with fail
   refine bodyPost_ret (v := .tuple #[.agg #[.slice none 0 0, .slice none 0 0, .slice none 0 0, .int .i64 0, .string ⟨#[]⟩, .int .i64 0, .slice none 0 0], .int .i64 1]) ?_ rfl hend.out
   simp only [results, hres.out]
   go_simp
   try rfl
 . have ht : Hid (qaZ s = .inr 2) := by show qaZ s = _; unfold qaZ; rw [if_neg (by omega), h2]
   clear h1 h2
   have hr9 := hX2.out.box
   have f0 := qac hr9 0
   have f1 := qac hr9 1
   have f2 := qac hr9 2
   have f3 := qac hr9 3
   have f4 := qac hr9 4
   have f5 := qac hr9 5
   have f6 := qac hr9 6
   have g0 := qaa w2 w.heap.size 0 _ _ _ hr9
   have g1 := qaa w2 w.heap.size 1 _ _ _ hr9
   have g2 := qaa w2 w.heap.size 2 _ _ _ hr9
   have g3 := qaa w2 w.heap.size 3 _ _ _ hr9
   have g4 := qaa w2 w.heap.size 4 _ _ _ hr9
   have g5 := qaa w2 w.heap.size 5 _ _ _ hr9
   have g6 := qaa w2 w.heap.size 6 _ _ _ hr9
   have s9 := qcZ (v0 := .slice none 0 0) (v1 := .slice none 0 0) (v2 := .slice none 0 0) (v3 := .int .i64 0) (v4 := .string ⟨#[]⟩) (v5 := .int .i64 0) (v6 := .slice none 0 0) hr9
   have s0 := qaa _ w.heap.size 0 _ _ _ s9
   have s1 := qaa _ w.heap.size 1 _ _ _ s9
   have s2 := qaa _ w.heap.size 2 _ _ _ s9
   have s3 := qaa _ w.heap.size 3 _ _ _ s9
   have s4 := qaa _ w.heap.size 4 _ _ _ s9
   have s5 := qaa _ w.heap.size 5 _ _ _ s9
   have s6 := qaa _ w.heap.size 6 _ _ _ s9
   unfold set7 at s0 s1 s2 s3 s4 s5 s6
   have hend : Hid (qbF s w (.returned (.tuple #[.agg #[.slice none 0 0, .slice none 0 0, .slice none 0 0, .int .i64 0, .string ⟨#[]⟩, .int .i64 0, .slice none 0 0], .int .i64 2])) (set7 w2 w.heap.size (.slice none 0 0) (.slice none 0 0) (.slice none 0 0) (.int .i64 0) (.string ⟨#[]⟩) (.int .i64 0) (.slice none 0 0))) := ⟨qcs hX2.out.below (Nat.le_refl _), by rw [ht.out] <;> rfl⟩
   unfold set7 at hend
   replace hr9 := hid hr9
   replace s9 := hid s9
   go_wp2_with fail
   refine bodyPost_ret (v := .tuple #[.agg #[.slice none 0 0, .slice none 0 0, .slice none 0 0, .int .i64 0, .string ⟨#[]⟩, .int .i64 0, .slice none 0 0], .int .i64 2]) ?_ rfl hend.out
   simp only [results, hres.out]
   go_simp
   try rfl
 . have hp := qcz h1 h2
   have hrl := qfb _ _ (Nat.le_refl _) l h2
   obtain ⟨hlen, hsh⟩ := Pa.qha h1 h2
   have kp := qnr A l c w2 hU (by omega) hcl hcm
   have hUl := hid (fun (W : World) (hb : Below w2.heap.size w2 W) => hU.later hb)
   obtain ⟨L, hL⟩ : ∃ n, l.length = n := ⟨_, rfl⟩
   rw [hL] at kp ⊢
   replace kp := hid kp
   replace hp := hid hp
   replace hrl := hid hrl
   replace hlen := hid hlen
   replace hsh := hid hsh
   replace hL := hid hL
   have hclh := hid hcl
   have hcmh := hid hcm
   clear h1 h2 hU hcl hcm
   go_wp2_with fail
   refine kp.out.mono ?_
   rintro e w3 ⟨v, sp, rfl, hb3, hown, hmap, hspan⟩
   have hX3 := hid (hX2.out.later hb3)
   have hU3 := hid (hUl.out w3 hb3)
   have hE3 := hid (hE.out.later hX3.out.below)
   clear kp hUl hX2 hE
   obtain ⟨VA, vc, rfl, hvc, hvm⟩ := qbe hown
   have hspl : sp.length = (cutL l).length := by rw [<- hmap, List.length_map]
   have hspne : sp.length ≠ 0 := by rw [hspl]; exact fun e => qlZ l (List.length_eq_zero_iff.1 e)
   obtain ⟨m, hm⟩ : ∃ m, sp.length = m + 1 := ⟨sp.length - 1, by omega⟩
   have hlim : m <= 131072 := by
     have h0 := qjY l
     have := hlen.out
     omega
   obtain ⟨g, cur, hVA, hg, hcells⟩ := qpw hown (by omega)
   subst hVA
   rw [hm] at hvc ⊢
   replace hown := hid hown
   replace hmap := hid hmap
   replace hspan := hid hspan
   replace hspl := hid hspl
   replace hm := hid hm
   clear hspne hb3
   by_cases h96 : 96 < m
   . have h96i : (96 : Int) < m := by omega
     have ht : Hid (qaZ s = .inr 1) := by
       show qaZ s = _
       rw [hp.out]
       unfold progT
       rw [if_pos (by have := hspl.out; have := hm.out; omega)]
     clear hcells hg
     have hr9 := hX3.out.box
     have f0 := qac hr9 0
     have f1 := qac hr9 1
     have f2 := qac hr9 2
     have f3 := qac hr9 3
     have f4 := qac hr9 4
     have f5 := qac hr9 5
     have f6 := qac hr9 6
     have g0 := qaa w3 w.heap.size 0 _ _ _ hr9
     have g1 := qaa w3 w.heap.size 1 _ _ _ hr9
     have g2 := qaa w3 w.heap.size 2 _ _ _ hr9
     have g3 := qaa w3 w.heap.size 3 _ _ _ hr9
     have g4 := qaa w3 w.heap.size 4 _ _ _ hr9
     have g5 := qaa w3 w.heap.size 5 _ _ _ hr9
     have g6 := qaa w3 w.heap.size 6 _ _ _ hr9
     have s9 := qcZ (v0 := .slice none 0 0) (v1 := .slice none 0 0) (v2 := .slice none 0 0) (v3 := .int .i64 0) (v4 := .string ⟨#[]⟩) (v5 := .int .i64 0) (v6 := .slice none 0 0) hr9
     have s0 := qaa _ w.heap.size 0 _ _ _ s9
     have s1 := qaa _ w.heap.size 1 _ _ _ s9
     have s2 := qaa _ w.heap.size 2 _ _ _ s9
     have s3 := qaa _ w.heap.size 3 _ _ _ s9
     have s4 := qaa _ w.heap.size 4 _ _ _ s9
     have s5 := qaa _ w.heap.size 5 _ _ _ s9
     have s6 := qaa _ w.heap.size 6 _ _ _ s9
     unfold set7 at s0 s1 s2 s3 s4 s5 s6
     have hend : Hid (qbF s w (.returned (.tuple #[.agg #[.slice none 0 0, .slice none 0 0, .slice none 0 0, .int .i64 0, .string ⟨#[]⟩, .int .i64 0, .slice none 0 0], .int .i64 1])) (set7 w3 w.heap.size (.slice none 0 0) (.slice none 0 0) (.slice none 0 0) (.int .i64 0) (.string ⟨#[]⟩) (.int .i64 0) (.slice none 0 0))) := ⟨qcs hX3.out.below (Nat.le_refl _), by rw [ht.out] <;> rfl⟩
     unfold set7 at hend
     replace hr9 := hid hr9
     replace s9 := hid s9
     go_wp2_with fail
     refine bodyPost_ret (v := .tuple #[.agg #[.slice none 0 0, .slice none 0 0, .slice none 0 0, .int .i64 0, .string ⟨#[]⟩, .int .i64 0, .slice none 0 0], .int .i64 1]) ?_ rfl hend.out
     simp only [results, hres.out]
     go_simp
     try rfl
   . have h96i : ¬ (96 : Int) < m := by omega
     have hprog := hid (fun (o : P ⊕ Nat) (h : qaw P0 (cutL l).dropLast = o) => (show qaZ s = finT o ((cutL l).getLastD []) by
       rw [hp.out, qpx (by have := hspl.out; have := hm.out; omega), h]))
     have hgl := World.lt_of_get hg
     have hb4 := X.qab w3 (.cells #[.slice none 0 0, .slice none 0 0, .slice none 0 0, .int .i64 0, .string ⟨#[]⟩, .int .i64 0, .slice none 0 0] 74)
     have hD4 := Dr.new w3
     obtain ⟨W4, hW4⟩ : ∃ W, w3.alloc (.cells #[.slice none 0 0, .slice none 0 0, .slice none 0 0, .int .i64 0, .string ⟨#[]⟩, .int .i64 0, .slice none 0 0] 74) = W := ⟨_, rfl⟩
     rw [hW4] at hb4 hD4
     have htk : (sp.take m).length = m := by rw [List.length_take, hm.out]; omega
     have hmt : (sp.take m).map (spanL l) = (cutL l).dropLast := by
       rw [List.map_take, hmap.out, List.dropLast_eq_take, <- hspl.out, hm.out, Nat.add_sub_cancel]
     have hcv : ∀ j, j < m + 1 -> w3.cell? ⟨g, j, none⟩ = some (qcM A c (sp.getD j (0, 0))) := fun j hj => by
       have h1 : j < sp.length := by rw [hm.out]; exact hj
       refine hcells j _ h1 ?_
       rw [List.getElem?_map, List.getD_eq_getElem?_getD, List.getElem?_eq_getElem h1]; rfl
     have kr := qiE w3 A l c (sp.take m) g vc w3.heap.size P0 W4 rfl hE3.out hU3.out hsh.out (fun x hx => qjJ hrl.out hx) (by have := hlen.out; omega) hclh.out hcmh.out
       (fun x hx => by have h1 := hspan.out x (List.mem_of_mem_take hx); rw [hL.out]; exact h1) hgl
       (fun j hj => by
         rw [htk] at hj
         rw [hcv j (by omega), List.getD_eq_getElem?_getD, List.getD_eq_getElem?_getD, List.getElem?_take_of_lt hj]) (by rw [htk]; omega) hb4 ⟨_, _, _, _, hD4⟩
     rw [htk, hmt] at kr
     have v9 := hcv m (by omega)
     have hx9 := hspan.out (sp.getD m (0, 0)) (qbu (by rw [hm.out]; omega))
     have hlst : spanL l (sp.getD m (0, 0)) = (cutL l).getLastD [] := by
       have h1 : m < sp.length := by rw [hm.out]; omega
       rw [<- hmap.out, List.getLastD_eq_getLast?, List.getLast?_eq_getElem?, List.length_map, hm.out, Nat.add_sub_cancel, List.getElem?_map, List.getD_eq_getElem?_getD, List.getElem?_eq_getElem h1]; rfl
     replace kr := hid kr
     obtain ⟨x, hx⟩ : ∃ x, sp.getD m (0, 0) = x := ⟨_, rfl⟩
     rw [hx] at v9 hx9 hlst
     obtain ⟨a, z⟩ := x
     rw [<- hL.out] at hx9
     have hTp := hid (fun (W : World) (hb : Below w3.heap.size w3 W) => qeW (c := c) (x := (a, z)) (hU3.out.later hb) hclh.out hx9.1 hx9.2)
     have hpl := qiG (l := l) (x := (a, z)) hx9.2
     have hps := qia hsh.out (a, z)
     have hEl := hid (fun (W : World) (hb : Below w3.heap.size w3 W) => hE3.out.later hb)
     unfold qcM at v9
     dsimp only at v9 hpl hx9
     have hNs : z - a <= 1000000000 := by have := hlen.out; omega
     obtain ⟨E, hEe⟩ : ∃ E, (if c = a then A else A.map (·.add (a * 3))) = E := ⟨_, rfl⟩
     dsimp only at hTp
     rw [hEe] at v9 hTp
     rw [hlst] at hTp hpl hps
     obtain ⟨cs, hcs⟩ : ∃ cs, (cutL l).getLastD [] = cs := ⟨_, rfl⟩
     rw [hcs] at hTp hpl hps hprog
     obtain ⟨N, hN⟩ : ∃ N, z - a = N := ⟨_, rfl⟩
     obtain ⟨Dc, hDd⟩ : ∃ D, c - a = D := ⟨_, rfl⟩
     rw [hN] at v9 hpl hNs
     rw [hDd] at v9
     have kt := hid (fun (W : World) (hb : Below w3.heap.size w3 W) => qeN E cs Dc W (hEl.out W hb) (hTp.out W hb) hps (by rw [hpl]; exact hNs))
     rw [hpl] at kt
     have v5 := hid (fun (W : World) (hb : Below w3.heap.size w3 W) => (hb.cell (p := ⟨g, m, none⟩) hgl).trans v9)
     obtain ⟨O, hO⟩ : ∃ O, qaw P0 (cutL l).dropLast = O := ⟨_, rfl⟩
     have hpo := hprog.out O hO
     rw [hO] at kr
     have hbx3 := hX3.out.below.size
     have hbx4 := World.lt_of_get hX3.out.box
     replace hb4 := hid hb4
     replace hD4 := hid hD4
     clear hcells hg htk hmt hcv hlst hx hx9 hTp hpl hps hEl hEe hcs hN hDd hgl hprog hO v9 hrl hlen hsh hL hclh hcmh hU3 hE3 hown hmap hspan hspl hNs
     have hml : (m : Int) <= vc := by omega
     have hmi : (0 : Int) <= m := by omega
     have hm1 : m < m + 1 := by omega
     go_wp2_with fail
     replace hW4 := hid hW4
     refine kr.out.mono ?_
     rintro e w5 ⟨hB5, ho5⟩
     have hX5 := hid (hX3.out.later hB5)
     have hv5 := v5.out w5 hB5
     have kt5 := hid (kt.out w5 hB5)
     have hsz5 := hB5.size
     clear kr kt v5 hB5
     cases O with
     | inr n =>
       have ho5 : e = .returned (.int .i64 n) := ho5
       subst ho5
       replace hpo : qaZ s = .inr n := hpo
       have hn := qpb hpo
       have ht : Hid (qaZ s = .inr n) := hpo
       have hnz : ((n : Int) != 0) = true := by rw [bne_iff_ne]; omega
       clear hpo hn kt5
       have hr9 := hX5.out.box
       have f0 := qac hr9 0
       have f1 := qac hr9 1
       have f2 := qac hr9 2
       have f3 := qac hr9 3
       have f4 := qac hr9 4
       have f5 := qac hr9 5
       have f6 := qac hr9 6
       have g0 := qaa w5 w.heap.size 0 _ _ _ hr9
       have g1 := qaa w5 w.heap.size 1 _ _ _ hr9
       have g2 := qaa w5 w.heap.size 2 _ _ _ hr9
       have g3 := qaa w5 w.heap.size 3 _ _ _ hr9
       have g4 := qaa w5 w.heap.size 4 _ _ _ hr9
       have g5 := qaa w5 w.heap.size 5 _ _ _ hr9
       have g6 := qaa w5 w.heap.size 6 _ _ _ hr9
       have s9 := qcZ (v0 := .slice none 0 0) (v1 := .slice none 0 0) (v2 := .slice none 0 0) (v3 := .int .i64 0) (v4 := .string ⟨#[]⟩) (v5 := .int .i64 0) (v6 := .slice none 0 0) hr9
       have s0 := qaa _ w.heap.size 0 _ _ _ s9
       have s1 := qaa _ w.heap.size 1 _ _ _ s9
       have s2 := qaa _ w.heap.size 2 _ _ _ s9
       have s3 := qaa _ w.heap.size 3 _ _ _ s9
       have s4 := qaa _ w.heap.size 4 _ _ _ s9
       have s5 := qaa _ w.heap.size 5 _ _ _ s9
       have s6 := qaa _ w.heap.size 6 _ _ _ s9
       unfold set7 at s0 s1 s2 s3 s4 s5 s6
       have hend : Hid (qbF s w (.returned (.tuple #[.agg #[.slice none 0 0, .slice none 0 0, .slice none 0 0, .int .i64 0, .string ⟨#[]⟩, .int .i64 0, .slice none 0 0], .int .i64 n])) (set7 w5 w.heap.size (.slice none 0 0) (.slice none 0 0) (.slice none 0 0) (.int .i64 0) (.string ⟨#[]⟩) (.int .i64 0) (.slice none 0 0))) := ⟨qcs hX5.out.below (Nat.le_refl _), by rw [ht.out] <;> rfl⟩
       unfold set7 at hend
       replace hr9 := hid hr9
       replace s9 := hid s9
       go_wp2_with fail
       refine bodyPost_ret (v := .tuple #[.agg #[.slice none 0 0, .slice none 0 0, .slice none 0 0, .int .i64 0, .string ⟨#[]⟩, .int .i64 0, .slice none 0 0], .int .i64 n]) ?_ rfl hend.out
       simp only [results, hres.out]
       go_simp
       try rfl
     | inl q =>
       obtain ⟨rfl, I, C, F, xs, hDr⟩ := (show e = .returned (.int .i64 0) /\ DrE w5 w3.heap.size q from ho5)
       clear ho5
       obtain ⟨IA, ic, rfl⟩ := qaK hDr.oi
       obtain ⟨CA, cc, rfl⟩ := qaK hDr.oc
       obtain ⟨FA, fc, rfl⟩ := qaK hDr.of_
       replace hDr := hid hDr
       go_wp2_with fail
       refine kt5.out.mono ?_
       rintro e w6 ⟨hb6, ho6⟩
       have hX6 := hid (hX5.out.later hb6)
       have hD6 := hDr.out.later hb6
       have hd8 := hD6.box
       have e0 := qaa w6 w3.heap.size 0 _ _ _ hd8
       have e1 := qaa w6 w3.heap.size 1 _ _ _ hd8
       have e2 := qaa w6 w3.heap.size 2 _ _ _ hd8
       have e3 := qaa w6 w3.heap.size 3 _ _ _ hd8
       have e4 := qaa w6 w3.heap.size 4 _ _ _ hd8
       have e5 := qaa w6 w3.heap.size 5 _ _ _ hd8
       have e6 := qaa w6 w3.heap.size 6 _ _ _ hd8
       have z3 := qac hd8 3
       have z4 := qac hd8 4
       have z5 := qac hd8 5
       have z6 := qac hd8 6
       rcases ho6 with ⟨t, B, d, htd, _, rfl, hT⟩ | ⟨n, hn, htd, rfl⟩
       . unfold tmV
         have hte := qcS htd
         have ht : Hid (qaZ s = .inl { q with body := t }) := by
           show qaZ s = _
           rw [hpo]
           unfold finT
           dsimp only
           rw [hte, if_neg (by simp)]
         obtain ⟨W7, hW7⟩ : ∃ W, put4 w6 w3.heap.size (.int .i64 t.kind) (.string t.name) (.int .i64 t.num) (.slice B t.kids.length d) = W := ⟨_, rfl⟩
         have hd9 := qjV (v3 := .int .i64 t.kind) (v4 := .string t.name) (v5 := .int .i64 t.num) (v6 := .slice B t.kids.length d) hd8
         have hX7 : Hid (BxP w W7) := by
           rw [<- hW7]
           exact ⟨qfD hX6.out.below (by omega), (qea (by omega)).trans hX6.out.box⟩
         have hW7o : ∀ k, k ≠ w3.heap.size -> W7.heap[k]? = w6.heap[k]? := fun k hk => by rw [<- hW7]; exact qea hk
         have hW7s : W7.heap.size = w6.heap.size := by rw [<- hW7]; exact qps
         rw [hW7] at hd9
         unfold put4 at hW7
         have k0 := qaa W7 w3.heap.size 0 _ _ _ hd9
         have k1 := qaa W7 w3.heap.size 1 _ _ _ hd9
         have k2 := qaa W7 w3.heap.size 2 _ _ _ hd9
         have k3 := qaa W7 w3.heap.size 3 _ _ _ hd9
         have k4 := qaa W7 w3.heap.size 4 _ _ _ hd9
         have k5 := qaa W7 w3.heap.size 5 _ _ _ hd9
         have k6 := qaa W7 w3.heap.size 6 _ _ _ hd9
         have hr9 := hX7.out.box
         have f0 := qac hr9 0
         have f1 := qac hr9 1
         have f2 := qac hr9 2
         have f3 := qac hr9 3
         have f4 := qac hr9 4
         have f5 := qac hr9 5
         have f6 := qac hr9 6
         have g0 := qaa W7 w.heap.size 0 _ _ _ hr9
         have g1 := qaa W7 w.heap.size 1 _ _ _ hr9
         have g2 := qaa W7 w.heap.size 2 _ _ _ hr9
         have g3 := qaa W7 w.heap.size 3 _ _ _ hr9
         have g4 := qaa W7 w.heap.size 4 _ _ _ hr9
         have g5 := qaa W7 w.heap.size 5 _ _ _ hr9
         have g6 := qaa W7 w.heap.size 6 _ _ _ hr9
         have s9 := qcZ (v0 := (.slice IA q.ins.length ic)) (v1 := (.slice CA q.cells.length cc)) (v2 := (.slice FA q.defs.length fc)) (v3 := (.int .i64 t.kind)) (v4 := (.string t.name)) (v5 := (.int .i64 t.num)) (v6 := (.slice B t.kids.length d)) hr9
         have s0 := qaa _ w.heap.size 0 _ _ _ s9
         have s1 := qaa _ w.heap.size 1 _ _ _ s9
         have s2 := qaa _ w.heap.size 2 _ _ _ s9
         have s3 := qaa _ w.heap.size 3 _ _ _ s9
         have s4 := qaa _ w.heap.size 4 _ _ _ s9
         have s5 := qaa _ w.heap.size 5 _ _ _ s9
         have s6 := qaa _ w.heap.size 6 _ _ _ s9
         obtain ⟨x, hx1, hxI, hxC, hxF, hxB, hxb, hxA⟩ := qqZ (Wf := set7 W7 w.heap.size (.slice IA q.ins.length ic) (.slice CA q.cells.length cc) (.slice FA q.defs.length fc) (.int .i64 t.kind) (.string t.name) (.int .i64 t.num) (.slice B t.kids.length d)) (bx := w.heap.size) hDr.out hb6 (by rw [qpt, hW7s]) (by omega) (fun k h1 h2 => (qnu h2).trans (hW7o k h1)) hT
         have hend : Hid (qbF s w (.returned (.tuple #[.agg #[.slice IA q.ins.length ic, .slice CA q.cells.length cc, .slice FA q.defs.length fc, .int .i64 t.kind, .string t.name, .int .i64 t.num, .slice B t.kids.length d], .int .i64 0])) (set7 W7 w.heap.size (.slice IA q.ins.length ic) (.slice CA q.cells.length cc) (.slice FA q.defs.length fc) (.int .i64 t.kind) (.string t.name) (.int .i64 t.num) (.slice B t.kids.length d))) := ⟨qcs hX7.out.below (Nat.le_refl _), by
           rw [ht.out]
           refine ⟨x, hx1, hxA, ?_⟩
           rw [hx1, hxI, hxC, hxF, hxB, hxb]⟩
         unfold set7 at s0 s1 s2 s3 s4 s5 s6 hend
         replace hr9 := hid hr9
         replace s9 := hid s9
         replace hd8 := hid hd8
         replace hd9 := hid hd9
         replace hD6 := hid hD6
         clear hpo hT hte htd hW7o hW7s hx1 hxI hxC hxF hxB hxb hxA kt5 hb6
         go_wp2_with fail
         refine bodyPost_ret (v := .tuple #[.agg #[.slice IA q.ins.length ic, .slice CA q.cells.length cc, .slice FA q.defs.length fc, .int .i64 t.kind, .string t.name, .int .i64 t.num, .slice B t.kids.length d], .int .i64 0]) ?_ rfl hend.out
         simp only [results, hres.out]
         go_simp
         try rfl
       . unfold noV
         have hte := qcS htd
         have ht : Hid (qaZ s = .inr n) := by
           show qaZ s = _
           rw [hpo]
           unfold finT
           dsimp only
           rw [hte, if_pos (by show n ≠ 0; omega)]
         have hnz : ((n : Int) != 0) = true := by rw [bne_iff_ne]; omega
         obtain ⟨W7, hW7⟩ : ∃ W, put4 w6 w3.heap.size (.int .i64 0) (.string ⟨#[]⟩) (.int .i64 0) (.slice none 0 0) = W := ⟨_, rfl⟩
         have hX7 : Hid (BxP w W7) := by
           rw [<- hW7]
           exact ⟨qfD hX6.out.below (by omega), (qea (by omega)).trans hX6.out.box⟩
         unfold put4 at hW7
         replace hd8 := hid hd8
         replace hD6 := hid hD6
         clear hpo hte htd kt5 hb6 hn
         have hr9 := hX7.out.box
         have f0 := qac hr9 0
         have f1 := qac hr9 1
         have f2 := qac hr9 2
         have f3 := qac hr9 3
         have f4 := qac hr9 4
         have f5 := qac hr9 5
         have f6 := qac hr9 6
         have g0 := qaa W7 w.heap.size 0 _ _ _ hr9
         have g1 := qaa W7 w.heap.size 1 _ _ _ hr9
         have g2 := qaa W7 w.heap.size 2 _ _ _ hr9
         have g3 := qaa W7 w.heap.size 3 _ _ _ hr9
         have g4 := qaa W7 w.heap.size 4 _ _ _ hr9
         have g5 := qaa W7 w.heap.size 5 _ _ _ hr9
         have g6 := qaa W7 w.heap.size 6 _ _ _ hr9
         have s9 := qcZ (v0 := .slice none 0 0) (v1 := .slice none 0 0) (v2 := .slice none 0 0) (v3 := .int .i64 0) (v4 := .string ⟨#[]⟩) (v5 := .int .i64 0) (v6 := .slice none 0 0) hr9
         have s0 := qaa _ w.heap.size 0 _ _ _ s9
         have s1 := qaa _ w.heap.size 1 _ _ _ s9
         have s2 := qaa _ w.heap.size 2 _ _ _ s9
         have s3 := qaa _ w.heap.size 3 _ _ _ s9
         have s4 := qaa _ w.heap.size 4 _ _ _ s9
         have s5 := qaa _ w.heap.size 5 _ _ _ s9
         have s6 := qaa _ w.heap.size 6 _ _ _ s9
         unfold set7 at s0 s1 s2 s3 s4 s5 s6
         have hend : Hid (qbF s w (.returned (.tuple #[.agg #[.slice none 0 0, .slice none 0 0, .slice none 0 0, .int .i64 0, .string ⟨#[]⟩, .int .i64 0, .slice none 0 0], .int .i64 n])) (set7 W7 w.heap.size (.slice none 0 0) (.slice none 0 0) (.slice none 0 0) (.int .i64 0) (.string ⟨#[]⟩) (.int .i64 0) (.slice none 0 0))) := ⟨qcs hX7.out.below (Nat.le_refl _), by rw [ht.out] <;> rfl⟩
         unfold set7 at hend
         replace hr9 := hid hr9
         replace s9 := hid s9
         go_wp2_with fail
         refine bodyPost_ret (v := .tuple #[.agg #[.slice none 0 0, .slice none 0 0, .slice none 0 0, .int .i64 0, .string ⟨#[]⟩, .int .i64 0, .slice none 0 0], .int .i64 n]) ?_ rfl hend.out
         simp only [results, hres.out]
         go_simp
         try rfl
end Go.Proofs.YtjnfhebbphdchaaGreatDoor.Pg
