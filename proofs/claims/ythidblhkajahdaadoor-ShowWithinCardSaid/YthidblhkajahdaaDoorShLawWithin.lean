/-
  ShowWithin's walk: true of whatever bytes. Conditions: the variables that are read lie as laid; the bytes can be read.
-/
import Derived.Test.YthidblhkajahdaaDoorShBase
import Derived.Test.YthidblhkajahdaaDoorShMath3
import Derived.Test.YthidblhkajahdaaDoorTmDepth
namespace Go.Proofs.YthidblhkajahdaaDoor
open Go.RowKit Go.Shelf Go.Tm Go.Lx Go.Maps
attribute [local go_sem] Oper.semAt_some

def bRai : ByteArray := ⟨#[114, 97, 105, 115, 101, 32]⟩
def bRaiO : ByteArray := ⟨#[114, 97, 105, 115, 101, 32, 40, 32]⟩
def bClo : ByteArray := ⟨#[32, 41]⟩
def raiS (t : Go.Tm.T) : Go.Tm.T := .node 8 ⟨#[]⟩ 0 [t]
theorem raiS_right {t : Go.Tm.T} (h : Rt t) (hs : t.size ≤ 9999) (hd : t.depth ≤ 199) : rightT (raiS t) = true :=
  right_of (.raise t h) (by unfold raiS; rw [T.size, sizes, sizes]; omega) (by unfold raiS; rw [T.depth, depths, depths]; omega)
theorem data_app (a b : ByteArray) : (a ++ b).data.toList = a.data.toList ++ b.data.toList := by rw [ByteArray.data_append, Array.toList_append]
theorem print_cons (x y : Tok) (l : List Tok) : printL (x :: y :: l) = x.text ++ 32 :: printL (y :: l) := by
  unfold printL
  rw [List.map_cons, List.map_cons, Lib.join_cons, Lib.join_cons]
  unfold Lib.joinTail
  simp
theorem print_one (x : Tok) : printL [x] = x.text := by unfold printL; rw [List.map_cons, List.map_nil, Lib.join_one]
theorem print_snoc (x : Tok) : ∀ (l : List Tok), l ≠ [] → printL (l ++ [x]) = printL l ++ 32 :: x.text
  | [], h => absurd rfl h
  | [a], _ => by rw [List.singleton_append, print_cons, print_one, print_one]
  | a :: b :: l, _ => by
    have h := print_snoc x (b :: l) (by simp)
    rw [List.cons_append, List.cons_append, print_cons, ← List.cons_append, h, print_cons, List.append_assoc]
    rfl
theorem show_raise {t : Go.Tm.T} (h : Rt t) (ht : rightT t = true) (hr : rightT (raiS t) = true) : showS (raiS t) = if leafK t.kind = true then bRai ++ showS t else (bRaiO ++ showS t) ++ bClo := by
  have h1 := (toks_len h).2
  rw [showS_right hr, showS_right ht]
  refine str_inj ?_
  rw [X.data_strOf]
  unfold raiS
  rw [toks_8]
  obtain ⟨y, l, hy⟩ : ∃ y l, toksT t = y :: l := by
    cases hh : toksT t with
    | nil => rw [hh] at h1; simp at h1
    | cons y l => exact ⟨y, l, rfl⟩
  cases hk : leafK t.kind with
  | true =>
    rw [if_pos rfl, kid_leaf hk, hy, print_cons, data_app, X.data_strOf]
    rfl
  | false =>
    rw [if_neg (by decide), kid_wrap hk, print_cons, hy, List.cons_append, print_cons, show y :: (l ++ [mTok [41]]) = (y :: l) ++ [mTok [41]] from rfl, print_snoc _ _ (by simp), data_app, data_app, X.data_strOf]
    simp [bRaiO, bClo, kTok, mTok]
theorem par_step (l : List Tok) (k : Nat) (hk : k < l.length) : parI (l.take (k + 1)) = parI (l.take k) + parI [l.getD k ⟨0, [], 0⟩] := by
  rw [List.take_succ_eq_append_getElem hk, List.getD_eq_getElem?_getD, List.getElem?_eq_getElem hk, parI_app]; rfl
theorem par_le (l : List Tok) : parI l ≤ l.length := by
  have : l.countP (fun x => x.text == [40]) ≤ l.length := List.countP_le_length
  unfold parI
  omega
theorem par_text (x : Tok) : (X.strOf x.text = ⟨#[40]⟩ ∧ parI [x] = 1) ∨ (X.strOf x.text = ⟨#[41]⟩ ∧ parI [x] = -1) ∨ (¬ (X.strOf x.text).toList = (⟨#[40]⟩ : ByteArray).toList ∧ ¬ (X.strOf x.text).toList = (⟨#[41]⟩ : ByteArray).toList ∧ parI [x] = 0) := by
  have hc : parI [x] = (if (x.text == [40]) = true then 1 else 0) - (if (x.text == [41]) = true then 1 else 0) := by
    unfold parI
    rw [List.countP_singleton, List.countP_singleton]
    split <;> split <;> rfl
  by_cases h1 : x.text = [40]
  · exact .inl ⟨by rw [h1]; rfl, by rw [hc, h1]; rfl⟩
  · by_cases h2 : x.text = [41]
    · exact .inr (.inl ⟨by rw [h2]; rfl, by rw [hc, h2]; rfl⟩)
    · refine .inr (.inr ⟨fun e => h1 ?_, fun e => h2 ?_, ?_⟩)
      · rw [ByteArray.toList_eq, ByteArray.toList_eq, X.data_strOf] at e; exact e
      · rw [ByteArray.toList_eq, ByteArray.toList_eq, X.data_strOf] at e; exact e
      · rw [hc, if_neg (by simpa using h1), if_neg (by simpa using h2)]; rfl
/-- the term, and the one round it, each in a box -/
structure WithT (w W : World) (t : Go.Tm.T) (A : Option Addr) (c b g b2 : Nat) : Prop where
  one : OneT w W t A c b
  tr : TmV W (· < W.heap.size) (raiS t) (some ⟨g, 0, none⟩) 1
  c2 : W.heap[b2]? = some (.cells #[.int .i64 8, .string ⟨#[]⟩, .int .i64 0, .slice (some ⟨g, 0, none⟩) 1 1] 24 (0, 0))
theorem WithT.later {w W W' : World} {t : Go.Tm.T} {A : Option Addr} {c b g b2 : Nat} (h : WithT w W t A c b g b2) (hb : Below W.heap.size W W') : WithT w W' t A c b g b2 :=
  ⟨h.one.later hb, h.tr.later hb, (hb.block _ (World.lt_of_get h.c2)).trans h.c2⟩
theorem WithT.new {w W : World} {t : Go.Tm.T} {A : Option Addr} {c b : Nat} (h : OneT w W t A c b) :
    WithT w ((W.alloc (.cells #[.int .i64 t.kind, .string t.name, .int .i64 t.num, .slice A t.kids.length c] 24)).alloc (.cells #[.int .i64 8, .string ⟨#[]⟩, .int .i64 0, .slice (some ⟨W.heap.size, 0, none⟩) 1 1] 24)) t A c b W.heap.size (W.heap.size + 1) := by
  have hb := (later_alloc W (.cells #[.int .i64 t.kind, .string t.name, .int .i64 t.num, .slice A t.kids.length c] 24)).trans ((later_alloc (W.alloc (.cells #[.int .i64 t.kind, .string t.name, .int .i64 t.num, .slice A t.kids.length c] 24)) (.cells #[.int .i64 8, .string ⟨#[]⟩, .int .i64 0, .slice (some ⟨W.heap.size, 0, none⟩) 1 1] 24)).mono (by simp))
  refine ⟨h.later hb, row_tm (ty := 24) (by decide) [(t, A, c)] 1 (fun x hx => ?_) ?_, ?_⟩
  · obtain rfl := List.mem_singleton.1 hx
    exact h.tm.later hb
  · exact (Below.heap_alloc _ _ _ (by simp)).trans (World.alloc_heap_new W _)
  · have := World.alloc_heap_new (W.alloc (.cells #[.int .i64 t.kind, .string t.name, .int .i64 t.num, .slice A t.kids.length c] 24)) (.cells #[.int .i64 8, .string ⟨#[]⟩, .int .i64 0, .slice (some ⟨W.heap.size, 0, none⟩) 1 1] 24)
    rwa [World.size_alloc] at this

set_option maxRecDepth 100000 in
set_option maxHeartbeats 4000000 in
theorem showWithin_any (A : Option Addr) (zs : List Int) (c : Nat) (w : World) (hE : EnvS w) (hU : BtsS w A zs) (hz : ∀ z ∈ zs, 0 ≤ z ∧ z ≤ 255) (hl : zs.length ≤ 9223372036854775807) (hc : zs.length ≤ c) (hc2 : c ≤ 9223372036854775807) :
    Calls Tryd.prog 6 #[.slice A zs.length c] w fun e w' => e = .returned (.bool true) ∧ Below w.heap.size w w' := by
  have hX := Lib.hid (NowS.new hE)
  have km := Lib.hid (fun W h => made_any A zs c W h hz hl hc hc2)
  replace hU := Lib.hid hU
  clear hE hz hl hc hc2
  obtain ⟨N, hN⟩ : ∃ N, zs.length = N := ⟨_, rfl⟩
  rw [hN] at km ⊢
  replace hN := Lib.hid hN
  go_enter Tryd.func6, Tryd.ntmps6
  go_wp2_with fail
  refine (examplesS_any _ hX.out.env).mono ?_
  rintro e w1 ⟨rfl, hb⟩
  replace hX := Lib.hid (hX.out.later hb)
  replace km := Lib.hid (km.out w1 (hU.out.later hb))
  unfold tmV at km
  clear hb hU
  go_wp2_with fail
  refine km.out.mono ?_
  rintro e w2 ⟨t, B, d, rfl, hrt, hs, hd, hb, hT⟩
  have hO := OneT.new (hX.out.later hb) hT.wide
  have hR := right_of hrt (by omega) (by omega)
  have hR8 := raiS_right hrt (by omega) (by omega)
  have hsh := show_raise hrt hR hR8
  have hpar := toks_par hrt
  have hlen := toks_len hrt
  have hpl := show_len hrt
  have hst := showT_right hR
  have hss := showS_right hR
  have hsz : (showS t).size ≤ 20000 := by
    have h1 : (showS t).size = (printL (toksT t)).length := by rw [hss]; rfl
    omega
  have hWT := Lib.hid (WithT.new hO)
  have p0 := cell_of_row _ w2.heap.size 0 _ _ _ hO.box
  have p1 := cell_of_row _ w2.heap.size 1 _ _ _ hO.box
  have p2 := cell_of_row _ w2.heap.size 2 _ _ _ hO.box
  have p3 := cell_of_row _ w2.heap.size 3 _ _ _ hO.box
  have ks := fun W (h : WithT w W t B d w2.heap.size (w2.heap.size + 1) (w2.heap.size + 1 + 1)) => show_any t B d W h.one.now.env (by omega) h.one.tm
  have kt := fun W (h : WithT w W t B d w2.heap.size (w2.heap.size + 1) (w2.heap.size + 1 + 1)) => toks_any t B d W h.one.now.env (by omega) h.one.tm
  have kd := fun W (h : WithT w W t B d w2.heap.size (w2.heap.size + 1) (w2.heap.size + 1 + 1)) => depth_any t B d W (by omega) h.one.tm
  have kr := fun W (h : WithT w W t B d w2.heap.size (w2.heap.size + 1) (w2.heap.size + 1 + 1)) => show_any (raiS t) (some ⟨w2.heap.size + 1, 0, none⟩) 1 W h.one.now.env (by unfold raiS; rw [T.size, sizes, sizes]; omega) h.tr
  have hb2 : (w2.alloc (.cells #[.int .i64 t.kind, .string t.name, .int .i64 t.num, .slice B t.kids.length d] 24)).heap.size = w2.heap.size + 1 := by simp
  rw [hb2] at hWT
  replace hb2 := Lib.hid hb2
  rw [hst] at kt
  rw [hsh] at kr
  obtain ⟨ts, hts⟩ : ∃ l, toksT t = l := ⟨_, rfl⟩
  rw [hts] at kt hpar hlen
  obtain ⟨sx, hsx⟩ : ∃ l, showS t = l := ⟨_, rfl⟩
  rw [hsx] at ks kr hsz
  obtain ⟨L, hL⟩ : ∃ n, ts.length = n := ⟨_, rfl⟩
  have hL9 : L ≤ 2000 := by rw [← hL]; omega
  have ⟨dd, hdd⟩ : ∃ n, t.depth = n := ⟨_, rfl⟩
  rw [hdd] at kd hd
  unfold tmV at ks kt kd kr
  replace ks := Lib.hid ks
  replace kt := Lib.hid kt
  replace kd := Lib.hid kd
  replace kr := Lib.hid kr
  replace hpar := Lib.hid hpar
  replace hL := Lib.hid hL
  clear km hX hb hT hR hR8 hsh hlen hpl hst hss hO hrt
  replace hts := Lib.hid hts
  replace hsx := Lib.hid hsx
  replace hdd := Lib.hid hdd
  go_wp2_with fail
  refine (ks.out _ hWT.out).mono ?_
  rintro e w3 ⟨rfl, hb3⟩
  replace hWT := Lib.hid (hWT.out.later hb3)
  clear p0 p1 p2 p3 hb3
  have x1 : ¬ 9223372036854775807 < 8 + sx.size := by omega
  have x2 : ¬ 9223372036854775807 < 8 + sx.size + 2 := by omega
  have x3 : ¬ 9223372036854775807 < 6 + sx.size := by omega
  rename_i KS hKS KT hKT
  have hsw : Hid (∀ (x14 x15 x16 x17 x18 x19 x20 x21 : Value), KS { tmps := #[.slice A N c, undef, .bool false, .bool true, .pointer (some ⟨w2.heap.size, 0, none⟩), .pointer (some ⟨w2.heap.size + 1 + 1, 0, none⟩), .string ((bRaiO ++ sx) ++ bClo), undef, undef, undef, .bool true, .bool true, .bool false, .slice A N c, x14, x15, x16, x17, x18, x19, x20, x21, undef, undef, undef, undef, undef, undef, undef, undef, undef, undef, undef, undef, undef, undef, undef, undef, undef, undef, undef, undef, undef, undef, undef, undef, undef, undef, undef, undef, undef, undef, undef, undef, undef, undef, undef, undef, undef, undef, undef, undef, undef, undef, undef, undef, undef, undef, undef], defers := [] } w3) := by
    intro x14 x15 x16 x17 x18 x19 x20 x21
    refine hKS _ _ ?_
    clear hKS hKT KT
    apply wp_seq_k
    intro KC hKC
    have hLp : Hid (∀ (W : World) (P : ByteArray) (x14 x15 x16 x17 x18 x19 x20 x21 x22 x23 x24 x25 x26 x27 x28 x29 x30 x31 x32 : Value), WithT w W t B d w2.heap.size (w2.heap.size + 1) (w2.heap.size + 1 + 1) → (if leafK t.kind = true then bRai ++ sx else (bRaiO ++ sx) ++ bClo) = P → KC { tmps := #[.slice A N c, undef, .bool false, .bool true, .pointer (some ⟨w2.heap.size, 0, none⟩), .pointer (some ⟨w2.heap.size + 1 + 1, 0, none⟩), .string P, undef, undef, undef, .bool true, .bool true, .bool false, .slice A N c, x14, x15, x16, x17, x18, x19, x20, x21, x22, x23, x24, x25, x26, x27, x28, x29, x30, x31, x32, undef, undef, undef, undef, undef, undef, undef, undef, undef, undef, undef, undef, undef, undef, undef, undef, undef, undef, undef, undef, undef, undef, undef, undef, undef, undef, undef, undef, undef, undef, undef, undef, undef, undef, undef, undef], defers := [] } W) := by
      intro W P x14 x15 x16 x17 x18 x19 x20 x21 x22 x23 x24 x25 x26 x27 x28 x29 x30 x31 x32 hW hP
      refine hKC _ _ ?_
      clear hKC hWT
      have p0 := cell_of_row W w2.heap.size 0 _ _ _ hW.one.box
      have p1 := cell_of_row W w2.heap.size 1 _ _ _ hW.one.box
      have p2 := cell_of_row W w2.heap.size 2 _ _ _ hW.one.box
      have p3 := cell_of_row W w2.heap.size 3 _ _ _ hW.one.box
      have kt := kt.out W hW
      rw [hL.out] at kt
      replace kt := Lib.hid kt
      replace kr := Lib.hid (fun W h => by have h9 := kr.out W h; rw [hP] at h9; exact h9)
      replace hW := Lib.hid hW
      replace hP := Lib.hid hP
      go_wp2_with fail
      refine kt.out.mono ?_
      rintro e w4 ⟨C, dc, rfl, hC, hb4⟩
      replace hW := Lib.hid (hW.out.later hb4)
      replace hC := Lib.hid hC
      clear p0 p1 p2 p3 kt hb4
      go_wp2_with fail
      go_loopw [7, 36] (fun o i wr => ∃ k : Nat, k ≤ L ∧ i = .int .i64 k ∧ o = .int .i64 (parI (ts.take k)) ∧ Hid (WithT w wr t B d w2.heap.size (w2.heap.size + 1) (w2.heap.size + 1 + 1)) ∧ Hid (X.Toks wr wr.heap.size C ts)) (fun _ i _ => L - (intOf i).toNat)
      case atStart => exact ⟨0, Nat.zero_le _, rfl, by rw [List.take_zero]; rfl, hW.out, hC.out⟩
      case round =>
        clear hW hC
        obtain ⟨k, hk, rfl, rfl, hW, hC⟩ := hrel
        by_cases hlt : k < L
        · have hk9 : k < ts.length := by rw [hL.out]; exact hlt
          obtain ⟨cb, co, rfl, hcb, hc⟩ := hC.out (by intro e; subst e; simp at hk9)
          obtain ⟨c0, c1, c2⟩ := hc k hk9
          clear hc
          have hst := par_step ts k hk9
          have hu1 := hpar.out.up k
          have hu2 := hpar.out.up (k + 1)
          have hu3 := par_le (ts.take k)
          have hu4 : (ts.take k).length ≤ k := by rw [List.length_take]; omega
          obtain ⟨x, hx⟩ : ∃ x, ts.getD k ⟨0, [], 0⟩ = x := ⟨_, rfl⟩
          rw [hx] at c0 c1 c2 hst
          obtain ⟨z, hz⟩ : ∃ z, parI (ts.take k) = z := ⟨_, rfl⟩
          rw [hz] at hst hu1 hu3 ⊢
          obtain ⟨z', hz'⟩ : ∃ z, parI (ts.take (k + 1)) = z := ⟨_, rfl⟩
          rw [hz'] at hst hu2
          have hz9 : z ≤ 2000 := by omega
          have hW9 := Lib.hid (hW.out.later (later_alloc wr (.cells #[.int .i64 x.kind, .string (X.strOf x.text), .int .i64 x.num] 50)))
          have hC9 := Lib.hid (X.Toks.later hC.out (later_alloc wr (.cells #[.int .i64 x.kind, .string (X.strOf x.text), .int .i64 x.num] 50)))
          have hcase := par_text x
          obtain ⟨S, hS⟩ : ∃ S, X.strOf x.text = S := ⟨_, rfl⟩
          rw [hS] at c1 hW9 hC9 hcase
          clear hu3 hu4
          replace hx := Lib.hid hx
          replace hz := Lib.hid hz
          replace hz' := Lib.hid hz'
          replace hS := Lib.hid hS
          rcases hcase with ⟨rfl, h1⟩ | ⟨rfl, h1⟩ | ⟨n1, n2, h1⟩
          · have hw1 : IntKind.i64.wrap (z + 1) = z + 1 := wrap_small _ (by omega) (by omega)
            have hF := Lib.hid (show z' = z + 1 by omega)
            have hng : ¬ z + 1 < 0 := by omega
            have hnd : decide (z + 1 < 0) = false := decide_eq_false hng
            replace hst := Lib.hid hst
            replace h1 := Lib.hid h1
            go_wp2_with fail
            go_roundw
            case rel => exact ⟨k + 1, by omega, by go_num, by rw [hz'.out, hF.out], hW9.out, hC9.out⟩
            case measure => simp [intOf]; omega
          · have hw1 : IntKind.i64.wrap (z - 1) = z - 1 := wrap_small _ (by omega) (by omega)
            have hF := Lib.hid (show z' = z - 1 by omega)
            have hng : ¬ z - 1 < 0 := by omega
            have hnd : decide (z - 1 < 0) = false := decide_eq_false hng
            replace hst := Lib.hid hst
            replace h1 := Lib.hid h1
            go_wp2_with fail
            go_roundw
            case rel => exact ⟨k + 1, by omega, by go_num, by rw [hz'.out, hF.out], hW9.out, hC9.out⟩
            case measure => simp [intOf]; omega
          · have hF := Lib.hid (show z' = z by omega)
            have hng : ¬ z < 0 := by omega
            have hnd : decide (z < 0) = false := decide_eq_false hng
            have n3 : (S.toList == [40]) = false := by rw [beq_eq_false_iff_ne, show ([40] : List UInt8) = (⟨#[40]⟩ : ByteArray).toList by rw [ByteArray.toList_eq]]; exact n1
            have n4 : (S.toList == [41]) = false := by rw [beq_eq_false_iff_ne, show ([41] : List UInt8) = (⟨#[41]⟩ : ByteArray).toList by rw [ByteArray.toList_eq]]; exact n2
            clear n1 n2
            replace hst := Lib.hid hst
            replace h1 := Lib.hid h1
            go_wp2_with fail
            go_roundw
            case rel => exact ⟨k + 1, by omega, by go_num, by rw [hz'.out, hF.out], hW9.out, hC9.out⟩
            case measure => simp [intOf]; omega
        · obtain rfl : k = L := by omega
          have h9 : parI (ts.take k) = 0 := by rw [← hL.out, List.take_length]; exact hpar.out.all
          rw [h9]
          replace h9 := Lib.hid h9
          have p0 := cell_of_row wr w2.heap.size 0 _ _ _ hW.out.one.box
          have p1 := cell_of_row wr w2.heap.size 1 _ _ _ hW.out.one.box
          have p2 := cell_of_row wr w2.heap.size 2 _ _ _ hW.out.one.box
          have p3 := cell_of_row wr w2.heap.size 3 _ _ _ hW.out.one.box
          have kd := Lib.hid (kd.out wr hW.out)
          have hg : ¬ 200 ≤ (dd : Int) := by omega
          have hgd : decide (200 ≤ (dd : Int)) = false := decide_eq_false hg
          go_wp2_with fail
          refine kd.out.mono ?_
          rintro e w5 ⟨rfl, hb5⟩
          replace hW := Lib.hid (hW.out.later hb5)
          clear p0 p1 p2 p3 kd hb5
          have p0 := cell_of_row w5 (w2.heap.size + 1 + 1) 0 _ _ _ hW.out.c2
          have p1 := cell_of_row w5 (w2.heap.size + 1 + 1) 1 _ _ _ hW.out.c2
          have p2 := cell_of_row w5 (w2.heap.size + 1 + 1) 2 _ _ _ hW.out.c2
          have p3 := cell_of_row w5 (w2.heap.size + 1 + 1) 3 _ _ _ hW.out.c2
          have kr : Hid (Calls Tryd.prog 27 #[.agg #[.int .i64 8, .string ⟨#[]⟩, .int .i64 0, .slice (some ⟨w2.heap.size + 1, 0, none⟩) 1 1]] w5 fun e w' => e = .returned (.string P) ∧ Below w5.heap.size w5 w') := kr.out w5 hW.out
          go_wp2_with fail
          refine kr.out.mono ?_
          rintro e w6 ⟨rfl, hb6⟩
          replace hW := Lib.hid (hW.out.later hb6)
          clear p0 p1 p2 p3 kr hb6
          go_wp2_with fail
          go_ret
          exact ⟨rfl, hW.out.one.now.below⟩
    clear hKC
    have p0 := cell_of_row w3 w2.heap.size 0 _ _ _ hWT.out.one.box
    have p1 := cell_of_row w3 w2.heap.size 1 _ _ _ hWT.out.one.box
    have p2 := cell_of_row w3 w2.heap.size 2 _ _ _ hWT.out.one.box
    have p3 := cell_of_row w3 w2.heap.size 3 _ _ _ hWT.out.one.box
    have hk3 : t.kind = 1 ∨ (t.kind ≠ 1 ∧ t.kind = 2) ∨ (t.kind ≠ 1 ∧ t.kind ≠ 2) := by omega
    rcases hk3 with hk | ⟨hk1, hk2⟩ | ⟨hk1, hk2⟩
    · have e1 : (t.kind == 1) = true := by rw [hk]; rfl
      have hlf := Lib.hid (show leafK t.kind = true by unfold leafK; rw [e1]; rfl)
      replace hk := Lib.hid hk
      have ks := Lib.hid (ks.out w3 hWT.out)
      go_wp2_with fail
      refine ks.out.mono ?_
      rintro e w4 ⟨rfl, hb4⟩
      replace hWT := Lib.hid (hWT.out.later hb4)
      clear p0 p1 p2 p3 hb4 ks
      go_wp2_with fail
      exact hLp.out _ _ _ _ _ _ _ _ _ _ _ _ _ _ _ _ _ _ _ _ _ hWT.out (by rw [if_pos hlf.out]; rfl)
    · have e1 : (t.kind == 1) = false := by rw [beq_eq_false_iff_ne]; exact hk1
      have e2 : (t.kind == 2) = true := by rw [hk2]; rfl
      have hlf := Lib.hid (show leafK t.kind = true by unfold leafK; rw [e1, e2]; rfl)
      replace hk2 := Lib.hid hk2
      have ks := Lib.hid (ks.out w3 hWT.out)
      go_wp2_with fail
      refine ks.out.mono ?_
      rintro e w4 ⟨rfl, hb4⟩
      replace hWT := Lib.hid (hWT.out.later hb4)
      clear p0 p1 p2 p3 hb4 ks
      go_wp2_with fail
      exact hLp.out _ _ _ _ _ _ _ _ _ _ _ _ _ _ _ _ _ _ _ _ _ hWT.out (by rw [if_pos hlf.out]; rfl)
    · have e1 : (t.kind == 1) = false := by rw [beq_eq_false_iff_ne]; exact hk1
      have e2 : (t.kind == 2) = false := by rw [beq_eq_false_iff_ne]; exact hk2
      have hlf := Lib.hid (show leafK t.kind = false by unfold leafK; rw [e1, e2]; rfl)
      go_wp2_with fail
      exact hLp.out _ _ _ _ _ _ _ _ _ _ _ _ _ _ _ _ _ _ _ _ _ hWT.out (by rw [if_neg (by rw [hlf.out]; decide)])
  clear hKS
  go_wp2_with fail
  exact hsw.out _ _ _ _ _ _ _ _
end Go.Proofs.YthidblhkajahdaaDoor
