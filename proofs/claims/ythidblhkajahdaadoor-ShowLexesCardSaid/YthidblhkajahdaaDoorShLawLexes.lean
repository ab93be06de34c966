/-
  ShowLexes's walk: true of whatever bytes. Conditions: the variables that are read lie as laid; the bytes can be read.
-/
import Derived.Test.YthidblhkajahdaaDoorShBase
import Derived.Test.YthidblhkajahdaaDoorLxLex
namespace Go.Proofs.YthidblhkajahdaaDoor
open Go.RowKit Go.Shelf Go.Tm Go.Lx Go.Maps
attribute [local go_sem] Oper.semAt_some

theorem lexS_some {s : ByteArray} {w : World} {l : List Tok} (hE : X.Env w) (hs : s.size ≤ 65536) (h : lexL s.data.toList = some l) : Calls Tryd.prog 26 #[.string s] w fun e w' => ∃ A c, e = .returned (.tuple #[.slice A l.length c, .int .i64 0]) ∧ Below w.heap.size w w' ∧ X.Toks w' w'.heap.size A l :=
  (X.lex_any s w hE (by omega)).mono fun e w' ⟨hb, ho⟩ => by
    rcases ho with ⟨h1, _⟩ | ⟨_, h1, _⟩ | ⟨_, l', A, c, h1, h2, h3, h4, h5⟩
    · omega
    · rw [h] at h1; cases h1
    · rw [h] at h1; cases h1
      exact ⟨A, c, h2, hb, h3⟩
/-- and what was told of it, twice -/
structure LexT (w W : World) (A B : Option Addr) (ts : List Tok) : Prop where
  now : NowS w W
  ta : X.Toks W W.heap.size A ts
  tb : X.Toks W W.heap.size B ts
theorem LexT.later {w W W' : World} {A B : Option Addr} {ts : List Tok} (h : LexT w W A B ts) (hb : Below W.heap.size W W') : LexT w W' A B ts := ⟨h.now.later hb, h.ta.later hb, h.tb.later hb⟩

set_option maxRecDepth 100000 in
set_option maxHeartbeats 4000000 in
theorem showLexes_any (A : Option Addr) (zs : List Int) (c : Nat) (w : World) (hE : EnvS w) (hU : BtsS w A zs) (hz : ∀ z ∈ zs, 0 ≤ z ∧ z ≤ 255) (hl : zs.length ≤ 9223372036854775807) (hc : zs.length ≤ c) (hc2 : c ≤ 9223372036854775807) :
    Calls Tryd.prog 4 #[.slice A zs.length c] w fun e w' => e = .returned (.bool true) ∧ Below w.heap.size w w' := by
  have hX := Lib.hid (NowS.new hE)
  have km := Lib.hid (fun W h => made_any A zs c W h hz hl hc hc2)
  replace hU := Lib.hid hU
  clear hE hz hl hc hc2
  obtain ⟨N, hN⟩ : ∃ N, zs.length = N := ⟨_, rfl⟩
  rw [hN] at km ⊢
  replace hN := Lib.hid hN
  go_enter Tryd.func4, Tryd.ntmps4
  go_wp2_with fail
  refine (examplesS_any _ hX.out.env).mono ?_
  rintro e w1 ⟨rfl, hb⟩
  replace hX := Lib.hid (hX.out.later hb)
  replace km := Lib.hid (km.out w1 (hU.out.later hb))
  unfold tmV at km
  clear hb hU
  go_wp2_with fail
  refine km.out.mono ?_
  rintro e w2 ⟨t, B, d, rfl, hrt, hs, hd, hb, hT⟩
  have hO := Lib.hid (OneT.new (hX.out.later hb) hT.wide)
  have hR := right_of hrt (by omega) (by omega)
  have hst := showT_right hR
  have hss := showS_right hR
  have hlen := toks_len hrt
  have hshort := toks_short hrt
  have hri := toks_right hrt
  have hprint := lexL_print (toksT t) hri
  have hpl := show_len hrt
  clear km hX hb hT hd
  obtain ⟨V, hV⟩ : ∃ V, w2.alloc (.cells #[.int .i64 t.kind, .string t.name, .int .i64 t.num, .slice B t.kids.length d] 24) = V := ⟨_, rfl⟩
  rw [hV] at hO
  have kt := toks_any t B d V hO.out.now.env (by omega) hO.out.tm
  rw [hst] at kt
  unfold tmV at kt
  obtain ⟨ts, hts⟩ : ∃ l, toksT t = l := ⟨_, rfl⟩
  rw [hts] at kt hst hss hlen hshort hri hprint hpl
  have hL9 : ts.length ≤ 2000 := by omega
  have hL1 : 1 ≤ ts.length := hlen.2
  have p0 := cell_of_row V w2.heap.size 0 _ _ _ hO.out.box
  have p1 := cell_of_row V w2.heap.size 1 _ _ _ hO.out.box
  have p2 := cell_of_row V w2.heap.size 2 _ _ _ hO.out.box
  have p3 := cell_of_row V w2.heap.size 3 _ _ _ hO.out.box
  replace kt := Lib.hid kt
  replace hV := Lib.hid hV
  replace hts := Lib.hid hts
  replace hrt := Lib.hid hrt
  replace hst := Lib.hid hst
  replace hss := Lib.hid hss
  replace hlen := Lib.hid hlen
  replace hshort := Lib.hid hshort
  replace hri := Lib.hid hri
  replace hR := Lib.hid hR
  replace hprint := Lib.hid hprint
  obtain ⟨L, hL⟩ : ∃ n, ts.length = n := ⟨_, rfl⟩
  rw [hL] at kt hL9 hL1
  replace hL := Lib.hid hL
  go_wp2_with fail
  try rw [hV.out]
  try go_wp2_with fail
  refine kt.out.mono ?_
  rintro e w3 ⟨C, dc, rfl, hC, hb3⟩
  replace hO := Lib.hid (hO.out.later hb3)
  replace hC := Lib.hid hC
  clear kt hb3 p0 p1 p2 p3
  have p0 := cell_of_row w3 w2.heap.size 0 _ _ _ hO.out.box
  have p1 := cell_of_row w3 w2.heap.size 1 _ _ _ hO.out.box
  have p2 := cell_of_row w3 w2.heap.size 2 _ _ _ hO.out.box
  have p3 := cell_of_row w3 w2.heap.size 3 _ _ _ hO.out.box
  have ks := show_any t B d w3 hO.out.now.env (by omega) hO.out.tm
  rw [hss.out] at ks
  unfold tmV at ks
  obtain ⟨sx, hsx⟩ : ∃ s, X.strOf (printL ts) = s := ⟨_, rfl⟩
  rw [hsx] at ks
  have hlx : Hid (lexL sx.data.toList = some ts) := by
    show _ = _
    rw [← hsx, X.data_strOf]; exact hprint.out
  have hsz : sx.size ≤ 65536 := by
    have h1 : sx.size = (printL ts).length := by rw [← hsx]; rfl
    omega
  replace ks := Lib.hid ks
  replace hsx := Lib.hid hsx
  go_wp2_with fail
  refine ks.out.mono ?_
  rintro e w4 ⟨rfl, hb4⟩
  replace hO := Lib.hid (hO.out.later hb4)
  replace hC := Lib.hid (hC.out.later hb4)
  clear ks hb4 p0 p1 p2 p3
  have kl := lexS_some hO.out.now.env.lx hsz hlx.out
  rw [hL.out] at kl
  replace kl := Lib.hid kl
  go_wp2_with fail
  refine kl.out.mono ?_
  rintro e w5 ⟨D, dd, rfl, hb5, hD⟩
  replace hO := Lib.hid (hO.out.later hb5)
  replace hC := Lib.hid (hC.out.later hb5)
  replace hD := Lib.hid hD
  clear kl hb5
  have p0 := cell_of_row w5 w2.heap.size 0 _ _ _ hO.out.box
  have p1 := cell_of_row w5 w2.heap.size 1 _ _ _ hO.out.box
  have p2 := cell_of_row w5 w2.heap.size 2 _ _ _ hO.out.box
  have p3 := cell_of_row w5 w2.heap.size 3 _ _ _ hO.out.box
  have kr := right_any t B d w5 hO.out.now.env.tm (by omega) hO.out.tm
  rw [hR.out] at kr
  unfold tmV at kr
  replace kr := Lib.hid kr
  go_wp2_with fail
  refine kr.out.mono ?_
  rintro e w6 ⟨rfl, hb6⟩
  replace hO := Lib.hid (hO.out.later hb6)
  replace hC := Lib.hid (hC.out.later hb6)
  replace hD := Lib.hid (hD.out.later hb6)
  clear kr hb6 p0 p1 p2 p3
  have kq := X.rights_any C ts dc w6 hO.out.now.env.lx hC.out (fun j => by
    by_cases hj : j < ts.length
    · rw [List.getD_eq_getElem?_getD, List.getElem?_eq_getElem hj]
      have := hshort.out _ (List.getElem_mem hj)
      simp only [Option.getD_some]; omega
    · rw [List.getD_eq_getElem?_getD, List.getElem?_eq_none (by omega)]; show (0 : Nat) ≤ _; omega) (by rw [hL.out]; omega)
  rw [hri.out, hL.out] at kq
  replace kq := Lib.hid kq
  go_wp2_with fail
  refine kq.out.mono ?_
  rintro e w7 ⟨rfl, hb7⟩
  have hF := Lib.hid (LexT.later (B := D) ⟨hO.out.now, hC.out, hD.out⟩ hb7)
  clear kq hb7 hO hC hD
  have hL0 : ((L : Int) == 0) = false := by rw [beq_eq_false_iff_ne]; omega
  have hL2 : decide ((L : Int) = 0) = false := decide_eq_false (by omega)
  have hL3 : ¬ (L : Int) = 0 := by omega
  go_wp2_with fail
  go_loopw [8] (fun i wr => ∃ k : Nat, k ≤ L ∧ i = .int .i64 k ∧ Hid (LexT w wr C D ts)) (fun i _ => L - (intOf i).toNat)
  case atStart => exact ⟨0, Nat.zero_le _, rfl, hF.out⟩
  case round =>
    clear hF
    obtain ⟨k, hk, rfl, hF⟩ := hrel
    by_cases hlt : k < L
    · have hk9 : k < ts.length := by rw [hL.out]; exact hlt
      obtain ⟨b1, o1, rfl, hb1, hc⟩ := hF.out.ta (by intro e; subst e; simp at hk9)
      obtain ⟨b2, o2, rfl, hb2, hd⟩ := hF.out.tb (by intro e; subst e; simp at hk9)
      obtain ⟨c0, c1, c2⟩ := hc k hk9
      obtain ⟨d0, d1, d2⟩ := hd k hk9
      clear hc hd
      obtain ⟨x, hx⟩ : ∃ x, ts.getD k ⟨0, [], 0⟩ = x := ⟨_, rfl⟩
      rw [hx] at c0 c1 c2 d0 d1 d2
      obtain ⟨S, hS⟩ : ∃ S, X.strOf x.text = S := ⟨_, rfl⟩
      rw [hS] at c1 d1
      replace hx := Lib.hid hx
      replace hS := Lib.hid hS
      have hF9 := Lib.hid (fun n => hF.out.later (belowN (Below.refl _ wr) n))
      go_wp2_with fail
      go_quiet (fail)
      go_wp2_with fail
      go_roundw
      case rel => exact ⟨k + 1, by omega, by go_num, hF9.out _⟩
      case measure => simp [intOf]; omega
    · obtain rfl : k = L := by omega
      go_wp2_with fail
      go_ret
      exact ⟨rfl, hF.out.now.below⟩
end Go.Proofs.YthidblhkajahdaaDoor
