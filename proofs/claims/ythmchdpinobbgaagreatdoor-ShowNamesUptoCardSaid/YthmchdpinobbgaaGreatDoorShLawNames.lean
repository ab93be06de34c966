/-
  A list of names is told by what stands on it; Free's texts. Conditions: the term can be read.
  What is shown of a term has its free names; a right term is not shown as a question. No condition.
  ShowNames's walk: true of whatever term, whatever bytes. Conditions: the variables that are read lie as laid; the term can be read, and has at most 1048576 terms; the bytes can be read.
-/
import Derived.Test.YthmchdpinobbgaaGreatDoorTmFree
import Derived.Test.YthmchdpinobbgaaGreatDoorTmEx0
import Derived.Test.YthmchdpinobbgaaGreatDoorShMath2
import Derived.Test.YthmchdpinobbgaaGreatDoorShShow
import Derived.Test.YthmchdpinobbgaaGreatDoorTmFreeI
import Derived.Test.YthmchdpinobbgaaGreatDoorShBase
import Derived.Deep.RegionHeld3
import Derived.Deep.DrawnRows
namespace Go.Proofs.YthmchdpinobbgaaGreatDoor
open Go.RowKit Go.Shelf Go.Tm Go.Maps

/-- a list of names is told by what stands on it -/
theorem names_eq {t : Go.Tm.T} {L M : List ByteArray} (h : Names t L) (hs : M.Pairwise (fun a b => a.data.toList ≤ b.data.toList)) (hn : M.Nodup) (hm : ∀ s, s ∈ M ↔ t.free s = true) : L = M := by
  have hp : L.Perm M := (List.perm_ext_iff_of_nodup h.nodup hn).2 fun s => (h.mem s).trans (hm s).symm
  refine List.Perm.eq_of_pairwise (le := fun a b : ByteArray => a.data.toList ≤ b.data.toList) (fun a b _ _ h1 h2 => ?_) h.sorted hs hp
  have h3 := List.le_antisymm h1 h2
  have h4 : a.data = b.data := Array.toList_inj.1 h3
  cases a; cases b; cases h4; rfl
theorem free_texts (t : Go.Tm.T) (A : Option Addr) (c : Nat) (w : World) (hsz : t.size ≤ 4194304) (hT : TmV w (· < w.heap.size) t A c) :
    Calls Tryz.prog 14 #[tmV t A c] w fun e w' => ∃ L B d, e = .returned (.slice B L.length d) ∧ Names t L ∧ Txs w' B L ∧ Below w.heap.size w w' :=
  (free_any t A c w hsz hT).mono fun e w' ⟨v, L, h1, h2, h3, _, h5⟩ => by
    obtain ⟨B, d, hv, hx⟩ := txs_of_row h3
    exact ⟨L, B, d, by rw [h1, hv], h2, hx, h5⟩
end Go.Proofs.YthmchdpinobbgaaGreatDoor
namespace Go.Proofs.YthmchdpinobbgaaGreatDoor
open Go.RowKit Go.Shelf Go.Tm Go.Lx Go.Maps

theorem kid_mem {u : Go.Tm.T} {x : Tok} (h : x ∈ toksT u) : x ∈ kidT u := by
  unfold kidT wrapK
  split
  · exact h
  · simp [h]
theorem frees_mem {s : ByteArray} {b : Bool} : ∀ {ks : List Go.Tm.T}, frees s b ks = true → ∃ u ∈ ks, u.free s = true
  | [], h => by rw [frees] at h; cases h
  | t :: ts, h => by
    rw [frees, Bool.or_eq_true, Bool.and_eq_true] at h
    rcases h with h | h
    · exact ⟨t, by simp, h.1⟩
    · obtain ⟨u, h1, h2⟩ := frees_mem h
      exact ⟨u, by simp [h1], h2⟩
theorem free_kid {s nm : ByteArray} {k n : Int} {ks : List Go.Tm.T} (hk : (k == 2) = false) (h : (T.node k nm n ks).free s = true) : ∃ u ∈ ks, u.free s = true := by
  rw [T.free, hk, Bool.false_and, Bool.false_or] at h
  exact frees_mem h
theorem free_toks {t : Go.Tm.T} (h : Rt t) (s : ByteArray) : t.free s = true → nTok s.data.toList ∈ toksT t := by
  induction h with
  | num n h0 h1 => intro hf; obtain ⟨u, hu, _⟩ := free_kid (by decide) hf; cases hu
  | var x hx =>
    intro hf
    rw [T.free, frees, Bool.or_false, Bool.and_eq_true, decide_eq_true_eq] at hf
    rw [toks_2, hf.2]; simp
  | fn x a hx ha ia =>
    intro hf; obtain ⟨u, hu, hg⟩ := free_kid (by decide) hf
    simp at hu; subst hu
    rw [toks_3]; simp [kid_mem (ia hg)]
  | app a b ha hb ia ib =>
    intro hf; obtain ⟨u, hu, hg⟩ := free_kid (by decide) hf
    simp at hu
    rw [toks_4]
    rcases hu with rfl | rfl
    · simp [kid_mem (ia hg)]
    · simp [kid_mem (ib hg)]
  | lt x a b hx ha hb ia ib =>
    intro hf; obtain ⟨u, hu, hg⟩ := free_kid (by decide) hf
    simp at hu
    rw [toks_5]
    rcases hu with rfl | rfl
    · simp [kid_mem (ia hg)]
    · simp [kid_mem (ib hg)]
  | cond a b c ha hb hc ia ib ic =>
    intro hf; obtain ⟨u, hu, hg⟩ := free_kid (by decide) hf
    simp at hu
    rw [toks_6]
    rcases hu with rfl | rfl | rfl
    · simp [kid_mem (ia hg)]
    · simp [kid_mem (ib hg)]
    · simp [kid_mem (ic hg)]
  | loop a b ha hb ia ib =>
    intro hf; obtain ⟨u, hu, hg⟩ := free_kid (by decide) hf
    simp at hu
    rw [toks_7]
    rcases hu with rfl | rfl
    · simp [kid_mem (ia hg)]
    · simp [kid_mem (ib hg)]
  | raise a ha ia =>
    intro hf; obtain ⟨u, hu, hg⟩ := free_kid (by decide) hf
    simp at hu; subst hu
    rw [toks_8]; simp [kid_mem (ia hg)]
  | tri x a b hx ha hb ia ib =>
    intro hf; obtain ⟨u, hu, hg⟩ := free_kid (by decide) hf
    simp at hu
    rw [toks_9]
    rcases hu with rfl | rfl
    · simp [kid_mem (ia hg)]
    · simp [kid_mem (ib hg)]
  | get a ha ia =>
    intro hf; obtain ⟨u, hu, hg⟩ := free_kid (by decide) hf
    simp at hu; subst hu
    rw [toks_10]; simp [kid_mem (ia hg)]
  | put a b ha hb ia ib =>
    intro hf; obtain ⟨u, hu, hg⟩ := free_kid (by decide) hf
    simp at hu
    rw [toks_11]
    rcases hu with rfl | rfl
    · simp [kid_mem (ia hg)]
    · simp [kid_mem (ib hg)]
  | op x a b h ha hb ia ib =>
    intro hf; obtain ⟨u, hu, hg⟩ := free_kid (by decide) hf
    simp at hu
    rw [toks_12]
    rcases hu with rfl | rfl
    · simp [kid_mem (ia hg)]
    · simp [kid_mem (ib hg)]
  | sq a b ha hb ia ib =>
    intro hf; obtain ⟨u, hu, hg⟩ := free_kid (by decide) hf
    simp at hu
    rw [toks_13]
    rcases hu with rfl | rfl
    · simp [kid_mem (ia hg)]
    · simp [kid_mem (ib hg)]
theorem quest : lexL [63] = none := by decide +kernel
/-- a term is shown as a question just if it is not right -/
theorem show_quest (t : Go.Tm.T) : (showS t).toList = (⟨#[63]⟩ : ByteArray).toList ↔ rightT t = false := by
  cases h : rightT t with
  | false => unfold showS; rw [h]; exact ⟨fun _ => rfl, fun _ => rfl⟩
  | true =>
    refine ⟨fun e => ?_, fun e => by cases e⟩
    unfold showS at e
    rw [if_pos h, ByteArray.toList_eq, ByteArray.toList_eq, X.data_strOf] at e
    have h1 := lexL_print (toksT t) (toks_right (right_rt h).1)
    rw [show Lib.join ((toksT t).map (·.text)) [32] = [63] from e, quest] at h1
    cases h1
theorem show_none (t : Go.Tm.T) : (showT t).length = 0 ↔ rightT t = false := by
  cases h : rightT t with
  | false => unfold showT; rw [h]; exact ⟨fun _ => rfl, fun _ => rfl⟩
  | true =>
    unfold showT
    rw [if_pos h]
    have := (toks_len (right_rt h).1).2
    exact ⟨fun e => by omega, fun e => by cases e⟩
end Go.Proofs.YthmchdpinobbgaaGreatDoor
namespace Go.Proofs.YthmchdpinobbgaaGreatDoor
open Go.RowKit Go.Shelf Go.Tm Go.Lx Go.Maps
attribute [local go_sem] Oper.semAt_some

/-- has a name's token been met? -/
def metB (s : ByteArray) (l : List Tok) : Bool := l.any fun x => x.kind == 1 && x.text == s.data.toList
theorem met_snoc (s : ByteArray) (l : List Tok) (k : Nat) (hk : k < l.length) : metB s (l.take (k + 1)) = (metB s (l.take k) || ((l.getD k ⟨0, [], 0⟩).kind == 1 && (l.getD k ⟨0, [], 0⟩).text == s.data.toList)) := by
  rw [List.take_succ_eq_append_getElem hk, List.getD_eq_getElem?_getD, List.getElem?_eq_getElem hk]
  unfold metB
  rw [List.any_append]
  simp
theorem met_all {s : ByteArray} {l : List Tok} (h : nTok s.data.toList ∈ l) : metB s l = true := by
  unfold metB
  rw [List.any_eq_true]
  exact ⟨_, h, by simp [nTok]⟩
theorem text_eqN (x : Tok) (s : ByteArray) : ((X.strOf x.text).toList == s.toList) = (x.text == s.data.toList) := by
  rw [ByteArray.toList_eq, ByteArray.toList_eq, X.data_strOf]
theorem names_len2 {t : Go.Tm.T} {L : List ByteArray} (h : Names t L) : L.length ≤ t.size := by
  have h1 : L.length ≤ (runS ([], []) (walk (rootT t) 0 1 t)).2.length := h.nodup.length_le_of_subset fun s hs => (run_root t (rootT t) rfl rfl s).2 ((h.mem s).1 hs)
  have h2 := (runS_len (walk (rootT t) 0 1 t) ([], [])).2
  rw [walk_len] at h2
  simp at h2
  omega
/-- the term that came in, and the bytes -/
structure NmO (w W : World) (t : Go.Tm.T) (A0 : Option Addr) (c0 : Nat) (A : Option Addr) (zs : List Int) : Prop where
  one : OneT w W t A0 c0 w.heap.size
  byt : BtsS W A zs
theorem NmO.later {w W W' : World} {t : Go.Tm.T} {A0 : Option Addr} {c0 : Nat} {A : Option Addr} {zs : List Int} (h : NmO w W t A0 c0 A zs) (hb : Below W.heap.size W W') : NmO w W' t A0 c0 A zs := ⟨h.one.later hb, h.byt.later hb⟩
/-- the term by bytes, its free names, and what is shown of it -/
structure NmT (w W : World) (x : Go.Tm.T) (B : Option Addr) (c b : Nat) (C : Option Addr) (L : List ByteArray) : Prop where
  one : OneT w W x B c b
  txs : Txs W C L
theorem NmT.later {w W W' : World} {x : Go.Tm.T} {B : Option Addr} {c b : Nat} {C : Option Addr} {L : List ByteArray} (h : NmT w W x B c b C L) (hb : Below W.heap.size W W') : NmT w W' x B c b C L := ⟨h.one.later hb, h.txs.later hb⟩

set_option maxRecDepth 100000 in
set_option maxHeartbeats 4000000 in
theorem showNames_any (t : Go.Tm.T) (A0 : Option Addr) (c0 : Nat) (A : Option Addr) (zs : List Int) (c : Nat) (w : World) (hE : EnvS w) (ht : t.size ≤ 1048576) (hT : TmV w (· < w.heap.size) t A0 c0) (hU : BtsS w A zs) (hz : ∀ z ∈ zs, 0 ≤ z ∧ z ≤ 255) (hl : zs.length ≤ 9223372036854775807) (hc : zs.length ≤ c) (hc2 : c ≤ 9223372036854775807) :
    Calls Tryz.prog 4 #[tmV t A0 c0, .slice A zs.length c] w fun e w' => e = .returned (.bool true) ∧ Below w.heap.size w w' := by
  unfold tmV
  have hO : Hid (NmO w (w.alloc (.cells #[.int .i64 t.kind, .string t.name, .int .i64 t.num, .slice A0 t.kids.length c0] 24)) t A0 c0 A zs) := ⟨OneT.new (NowS.new hE) hT, hU.later (later_alloc _ _)⟩
  have km := Lib.hid (fun W h => made_any A zs c W h hz hl hc hc2)
  clear hE hT hU hz hl hc hc2
  have hq := show_quest t
  have hn := show_none t
  obtain ⟨s, hs⟩ : ∃ s, showS t = s := ⟨_, rfl⟩
  obtain ⟨L0, hL0⟩ : ∃ n, (showT t).length = n := ⟨_, rfl⟩
  obtain ⟨r, hr⟩ : ∃ n, rightT t = n := ⟨_, rfl⟩
  rw [hs, hr] at hq
  rw [hL0, hr] at hn
  have ks : Hid (∀ W, NmO w W t A0 c0 A zs → Calls Tryz.prog 11 #[.agg #[.int .i64 t.kind, .string t.name, .int .i64 t.num, .slice A0 t.kids.length c0]] W fun e w' => e = .returned (.string s) ∧ Hid (NmO w w' t A0 c0 A zs)) := fun W h =>
    (show_any t A0 c0 W h.one.now.env (by omega) h.one.tm).mono fun e w' h9 => ⟨by rw [h9.1, hs], h.later h9.2⟩
  have kr : Hid (∀ W, NmO w W t A0 c0 A zs → Calls Tryz.prog 13 #[.agg #[.int .i64 t.kind, .string t.name, .int .i64 t.num, .slice A0 t.kids.length c0]] W fun e w' => e = .returned (.bool r) ∧ Hid (NmO w w' t A0 c0 A zs)) := fun W h =>
    (right_any t A0 c0 W h.one.now.env.tm (by omega) h.one.tm).mono fun e w' h9 => ⟨by rw [h9.1, hr], h.later h9.2⟩
  have kt : Hid (∀ W, NmO w W t A0 c0 A zs → Calls Tryz.prog 8 #[.agg #[.int .i64 t.kind, .string t.name, .int .i64 t.num, .slice A0 t.kids.length c0]] W fun e w' => ∃ B d, e = .returned (.slice B L0 d) ∧ Hid (NmO w w' t A0 c0 A zs)) := fun W h =>
    (toks_any t A0 c0 W h.one.now.env (by omega) h.one.tm).mono fun e w' ⟨B, d, h1, _, h3⟩ => ⟨B, d, by rw [h1, hL0], h.later h3⟩
  have hL9 : L0 ≤ 60000 := by
    rw [← hL0]; unfold showT
    split
    · rename_i h
      obtain ⟨h1, h2⟩ := right_rt h
      have := (toks_len h1).1
      omega
    · simp
  replace hs := Lib.hid hs
  replace hL0 := Lib.hid hL0
  replace hr := Lib.hid hr
  obtain ⟨N, hN⟩ : ∃ N, zs.length = N := ⟨_, rfl⟩
  rw [hN] at km ⊢
  replace hN := Lib.hid hN
  clear ht
  replace hq := Lib.hid hq
  replace hn := Lib.hid hn
  go_enter Tryz.func4, Tryz.ntmps4
  go_wp2_with fail
  refine (examplesS_any _ hO.out.one.now.env).mono ?_
  rintro e w1 ⟨rfl, hb⟩
  replace hO := Lib.hid (hO.out.later hb)
  clear hb
  have q0 := cell_of_row w1 w.heap.size 0 _ _ _ hO.out.one.box
  have q1 := cell_of_row w1 w.heap.size 1 _ _ _ hO.out.one.box
  have q2 := cell_of_row w1 w.heap.size 2 _ _ _ hO.out.one.box
  have q3 := cell_of_row w1 w.heap.size 3 _ _ _ hO.out.one.box
  replace hO : Hid (NmO w w1.drew t A0 c0 A zs) := hO.out.later (Below.refl _ w1).drew
  go_wp2_with fail
  rename_i QA KA hKA KB hKB
  have hA : Hid (∀ (W : World) (x15 x16 x17 x18 x19 x20 x21 x22 x23 x24 x25 x26 x27 x28 x29 x30 x31 : Value), NmO w W t A0 c0 A zs → KA { tmps := #[.agg #[.int .i64 t.kind, .string t.name, .int .i64 t.num, .slice A0 t.kids.length c0], .slice A N c, .pointer (some ⟨w.heap.size, 0, none⟩), undef, .bool false, .bool true, undef, undef, undef, undef, undef, undef, .bool true, .bool true, .bool false, x15, x16, x17, x18, x19, x20, x21, x22, x23, x24, x25, x26, x27, x28, x29, x30, x31, undef, undef, undef, undef, undef, undef, undef, undef, undef, undef, undef, undef, undef, undef, undef, undef, undef, undef, undef, undef, undef, undef, undef, undef, undef, undef, undef, undef, undef, undef, undef, undef, undef, undef, undef, undef], defers := [] } W) := by
    intro W x15 x16 x17 x18 x19 x20 x21 x22 x23 x24 x25 x26 x27 x28 x29 x30 x31 hOW
    refine hKA _ _ ?_
    clear hKA hKB q0 q1 q2 q3 hO ks kr kt
    have km := km.out W hOW.byt
    unfold tmV at km
    have hX := hOW.one.now
    replace hX := Lib.hid hX
    replace km := Lib.hid km
    clear hOW
    go_wp2_with fail
    refine km.out.mono ?_
    rintro e w2 ⟨x, B, d, rfl, hrt, hs2, hd, hb, hTx⟩
    have hO := OneT.new (hX.out.later hb) hTx.wide
    have hR := right_of hrt (by omega) (by omega)
    have hst := showT_right hR
    have hlen := (toks_len hrt).1
    have hfree := fun s => free_toks hrt s
    obtain ⟨V, hV⟩ : ∃ V, w2.alloc (.cells #[.int .i64 x.kind, .string x.name, .int .i64 x.num, .slice B x.kids.length d] 24) = V := ⟨_, rfl⟩
    rw [hV] at hO
    have kf := free_texts x B d V (by omega) hO.tm
    unfold tmV at kf
    have kt : Hid (∀ W, OneT w W x B d w2.heap.size → Calls Tryz.prog 8 #[.agg #[.int .i64 x.kind, .string x.name, .int .i64 x.num, .slice B x.kids.length d]] W fun e w' => ∃ D dm, e = .returned (.slice D (toksT x).length dm) ∧ X.Toks w' w'.heap.size D (toksT x) ∧ Below W.heap.size W w') := fun W h => by
      have h9 := toks_any x B d W h.now.env (by omega) h.tm
      rw [hst] at h9
      exact h9
    have hll : (toksT x).length ≤ 2000 := by omega
    obtain ⟨ts, hts⟩ : ∃ l, toksT x = l := ⟨_, rfl⟩
    rw [hts] at kt hll hfree
    obtain ⟨M, hM⟩ : ∃ n, ts.length = n := ⟨_, rfl⟩
    rw [hM] at hll
    have q0 := cell_of_row V w2.heap.size 0 _ _ _ hO.box
    have q1 := cell_of_row V w2.heap.size 1 _ _ _ hO.box
    have q2 := cell_of_row V w2.heap.size 2 _ _ _ hO.box
    have q3 := cell_of_row V w2.heap.size 3 _ _ _ hO.box
    clear km hX hb hTx hrt hd hR hst hlen
    replace hO := Lib.hid hO
    replace hV := Lib.hid hV
    replace hfree := Lib.hid hfree
    replace hts := Lib.hid hts
    replace kf := Lib.hid kf
    replace hM := Lib.hid hM
    go_wp2_with fail
    try rw [hV.out]
    try go_wp2_with fail
    refine kf.out.mono ?_
    rintro e w3 ⟨L, C, dc, rfl, hN2, hTx, hb3⟩
    have hNT : Hid (NmT w w3 x B d w2.heap.size C L) := ⟨hO.out.later hb3, hTx⟩
    have hLs : L.length ≤ 181 := by have := names_len2 hN2; omega
    have hmem : Hid (∀ s, s ∈ L → nTok s.data.toList ∈ ts) := fun s hs => hfree.out s ((hN2.mem s).1 hs)
    clear kf hb3 hTx hN2 hO q0 q1 q2 q3 hfree
    obtain ⟨J, hJ⟩ : ∃ n, L.length = n := ⟨_, rfl⟩
    rw [hJ] at hLs ⊢
    replace hJ := Lib.hid hJ
    go_wp2_with fail
    go_loopw [8] (fun i wr => ∃ k : Nat, k ≤ J ∧ i = .int .i64 k ∧ Hid (NmT w wr x B d w2.heap.size C L)) (fun i _ => J - (intOf i).toNat)
    case atStart => exact ⟨0, Nat.zero_le _, rfl, hNT.out⟩
    case round =>
      clear hNT
      obtain ⟨k, hk, rfl, hNT⟩ := hrel
      by_cases hlt : k < J
      · have hk9 : k < L.length := by rw [hJ.out]; exact hlt
        obtain ⟨nb, no, rfl, hnb, hnc⟩ := hNT.out.txs k hk9
        have hsm : L.getD k ⟨#[]⟩ ∈ L := by rw [List.getD_eq_getElem?_getD, List.getElem?_eq_getElem hk9]; exact List.getElem_mem _
        have hmet := Lib.hid (met_all (hmem.out _ hsm))
        clear hsm hnb hnc
        obtain ⟨s9, hs9⟩ : ∃ s, L.getD k ⟨#[]⟩ = s := ⟨_, rfl⟩
        rw [hs9] at hmet
        have q0 := cell_of_row wr w2.heap.size 0 _ _ _ hNT.out.one.box
        have q1 := cell_of_row wr w2.heap.size 1 _ _ _ hNT.out.one.box
        have q2 := cell_of_row wr w2.heap.size 2 _ _ _ hNT.out.one.box
        have q3 := cell_of_row wr w2.heap.size 3 _ _ _ hNT.out.one.box
        have kt := kt.out wr hNT.out.one
        rw [hM.out] at kt
        replace kt := Lib.hid kt
        replace hs9 := Lib.hid hs9
        go_wp2_with fail
        refine kt.out.mono ?_
        rintro e w4 ⟨D, dm, rfl, hD, hb4⟩
        replace hNT := Lib.hid (hNT.out.later hb4)
        replace hD := Lib.hid hD
        clear kt hb4 q0 q1 q2 q3
        go_wp2_with fail
        go_loopw [9, 45] (fun m i wr => ∃ k2 : Nat, k2 ≤ M ∧ i = .int .i64 k2 ∧ m = .bool (metB s9 (ts.take k2)) ∧ Hid (NmT w wr x B d w2.heap.size (some ⟨nb, no, none⟩) L) ∧ Hid (X.Toks wr wr.heap.size D ts)) (fun _ i _ => M - (intOf i).toNat)
        case atStart => exact ⟨0, Nat.zero_le _, rfl, by rw [List.take_zero]; rfl, hNT.out, hD.out⟩
        case round =>
          clear hNT hD
          obtain ⟨k2, hk2, rfl, rfl, hNT, hD⟩ := hrel
          by_cases hlt2 : k2 < M
          · have hk8 : k2 < ts.length := by rw [hM.out]; exact hlt2
            obtain ⟨tb, to9, rfl, htb, hc⟩ := hD.out (by intro e; subst e; simp at hk8)
            obtain ⟨c0', c1', c2'⟩ := hc k2 hk8
            clear hc
            obtain ⟨nb', no', e9, hnb, hnc⟩ := hNT.out.txs k hk9
            cases e9
            rw [hs9.out] at hnc
            have hsn := met_snoc s9 ts k2 hk8
            obtain ⟨y, hy⟩ : ∃ x, ts.getD k2 ⟨0, [], 0⟩ = x := ⟨_, rfl⟩
            rw [hy] at c0' c1' c2' hsn
            have hte := text_eqN y s9
            obtain ⟨S, hS⟩ : ∃ S, X.strOf y.text = S := ⟨_, rfl⟩
            rw [hS] at c1' hte
            rw [← hte] at hsn
            have hba : Below wr.heap.size wr (wr.alloc (.cells #[.int .i64 y.kind, .string S, .int .i64 y.num] 45)) := later_alloc _ _
            have hgb : (wr.alloc (.cells #[.int .i64 y.kind, .string S, .int .i64 y.num] 45)).heap[wr.heap.size]? = some (.cells #[.int .i64 y.kind, .string S, .int .i64 y.num] 45 (0, 0)) := World.alloc_heap_new _ _
            have hnc2 := (hba.cell (p := ⟨nb, no + k, none⟩) hnb).trans hnc
            have g0 := cell_of_row _ wr.heap.size 0 _ _ _ hgb
            have g1 := cell_of_row _ wr.heap.size 1 _ _ _ hgb
            have hW9 := Lib.hid (fun n => hNT.out.later (belowN hba n))
            have hC9 := Lib.hid (fun n => X.Toks.later hD.out (belowN hba n))
            clear hte hba hnc hgb
            replace hy := Lib.hid hy
            replace hS := Lib.hid hS
            obtain ⟨m9, hm9⟩ : ∃ m, metB s9 (ts.take k2) = m := ⟨_, rfl⟩
            rw [hm9] at hsn ⊢
            replace hm9 := Lib.hid hm9
            cases m9 with
            | true =>
              have hF : Hid (metB s9 (ts.take (k2 + 1)) = true) := by show _ = _; rw [hsn]; rfl
              replace hsn := Lib.hid hsn
              go_wp2_with fail
              go_quiet (fail)
              all_goals go_wp2
              all_goals go_roundw
              case rel => exact ⟨k2 + 1, by omega, by go_num, by rw [hF.out], hW9.out _, hC9.out _⟩
              case measure => simp [intOf]; omega
            | false =>
              cases hk1 : (y.kind == 1) with
              | false =>
                have hF : Hid (metB s9 (ts.take (k2 + 1)) = false) := by show _ = _; rw [hsn, hk1]; rfl
                have hkn : ¬ y.kind = 1 := by simpa using hk1
                have hkd : decide (y.kind = 1) = false := decide_eq_false hkn
                replace hsn := Lib.hid hsn
                go_wp2_with fail
                go_quiet (fail)
                all_goals go_wp2
                all_goals go_roundw
                case rel => exact ⟨k2 + 1, by omega, by go_num, by rw [hF.out], hW9.out _, hC9.out _⟩
                case measure => simp [intOf]; omega
              | true =>
                have hke : y.kind = 1 := by simpa using hk1
                have hkd : decide (y.kind = 1) = true := decide_eq_true hke
                replace hke := Lib.hid hke
                cases hq9 : (S.toList == s9.toList) with
                | true =>
                  have hF : Hid (metB s9 (ts.take (k2 + 1)) = true) := by show _ = _; rw [hsn, hk1, hq9]; rfl
                  replace hsn := Lib.hid hsn
                  go_wp2_with fail
                  go_quiet (fail)
                  all_goals go_wp2
                  all_goals go_roundw
                  case rel => exact ⟨k2 + 1, by omega, by go_num, by rw [hF.out], hW9.out _, hC9.out _⟩
                  case measure => simp [intOf]; omega
                | false =>
                  have hF : Hid (metB s9 (ts.take (k2 + 1)) = false) := by show _ = _; rw [hsn, hk1, hq9]; rfl
                  have n2 : ¬ S.toList = s9.toList := fun h => by rw [h, beq_self_eq_true] at hq9; cases hq9
                  have d2 : decide (S.toList = s9.toList) = false := decide_eq_false n2
                  replace hsn := Lib.hid hsn
                  go_wp2_with fail
                  go_quiet (fail)
                  all_goals go_wp2
                  all_goals go_roundw
                  case rel => exact ⟨k2 + 1, by omega, by go_num, by rw [hF.out], hW9.out _, hC9.out _⟩
                  case measure => simp [intOf]; omega
          · obtain rfl : k2 = M := by omega
            have h9 : metB s9 (ts.take k2) = true := by rw [← hM.out, List.take_length]; exact hmet.out
            rw [h9]
            replace h9 := Lib.hid h9
            go_wp2_with fail
            go_roundw
            case rel => exact ⟨k + 1, by omega, by go_num, hNT.out⟩
            case measure => simp [intOf]; omega
      · obtain rfl : k = J := by omega
        go_wp2_with fail
        go_ret
        exact ⟨rfl, hNT.out.one.now.below⟩
  clear hKA
  cases r with
  | true =>
    have n1 : ¬ s.toList = (⟨#[63]⟩ : ByteArray).toList := fun h => by have := hq.out.1 h; cases this
    have n3 : (s.toList == [63]) = false := by rw [beq_eq_false_iff_ne, show ([63] : List UInt8) = (⟨#[63]⟩ : ByteArray).toList by rw [ByteArray.toList_eq]]; exact n1
    have n4 : ¬ L0 = 0 := fun h => by have := hn.out.1 h; cases this
    have n5 : ((L0 : Int) == 0) = false := by rw [beq_eq_false_iff_ne]; omega
    clear n1
    go_region_held3 (fun w' => w'.cell? ⟨w.heap.size, 0, none⟩ = some (.int .i64 t.kind) ∧ w'.cell? ⟨w.heap.size, 1, none⟩ = some (.string t.name) ∧ w'.cell? ⟨w.heap.size, 2, none⟩ = some (.int .i64 t.num) ∧ w'.cell? ⟨w.heap.size, 3, none⟩ = some (.slice A0 t.kids.length c0)) (exact ⟨q0, q1, q2, q3⟩) (first | (go_at_call 11; have hP := hO; clear hO q0 q1 q2 q3; refine (ks.out _ hP.out).mono ?_; clear hP; rintro e w9 ⟨rfl, hO⟩; have q0 := cell_of_row w9 w.heap.size 0 _ _ _ hO.out.one.box; have q1 := cell_of_row w9 w.heap.size 1 _ _ _ hO.out.one.box; have q2 := cell_of_row w9 w.heap.size 2 _ _ _ hO.out.one.box; have q3 := cell_of_row w9 w.heap.size 3 _ _ _ hO.out.one.box) | (go_at_call 13; have hP := hO; clear hO q0 q1 q2 q3; refine (kr.out _ hP.out).mono ?_; clear hP; rintro e w9 ⟨rfl, hO⟩; have q0 := cell_of_row w9 w.heap.size 0 _ _ _ hO.out.one.box; have q1 := cell_of_row w9 w.heap.size 1 _ _ _ hO.out.one.box; have q2 := cell_of_row w9 w.heap.size 2 _ _ _ hO.out.one.box; have q3 := cell_of_row w9 w.heap.size 3 _ _ _ hO.out.one.box) | (go_at_call 8; have hP := hO; clear hO q0 q1 q2 q3; refine (kt.out _ hP.out).mono ?_; clear hP; rintro e w9 ⟨B9, d9, rfl, hO⟩; have q0 := cell_of_row w9 w.heap.size 0 _ _ _ hO.out.one.box; have q1 := cell_of_row w9 w.heap.size 1 _ _ _ hO.out.one.box; have q2 := cell_of_row w9 w.heap.size 2 _ _ _ hO.out.one.box; have q3 := cell_of_row w9 w.heap.size 3 _ _ _ hO.out.one.box))
    go_wp2_with fail
    exact hA.out _ _ _ _ _ _ _ _ _ _ _ _ _ _ _ _ _ _ hO.out
  | false =>
    have n1 : s.toList = [63] := by rw [hq.out.2 rfl, ByteArray.toList_eq]
    have n3 : (s.toList == [63]) = true := by rw [n1]; rfl
    have n4 : L0 = 0 := hn.out.2 rfl
    have n5 : ((L0 : Int) == 0) = true := by rw [n4]; rfl
    replace n1 := Lib.hid n1
    replace n4 := Lib.hid n4
    go_region_held3 (fun w' => w'.cell? ⟨w.heap.size, 0, none⟩ = some (.int .i64 t.kind) ∧ w'.cell? ⟨w.heap.size, 1, none⟩ = some (.string t.name) ∧ w'.cell? ⟨w.heap.size, 2, none⟩ = some (.int .i64 t.num) ∧ w'.cell? ⟨w.heap.size, 3, none⟩ = some (.slice A0 t.kids.length c0)) (exact ⟨q0, q1, q2, q3⟩) (first | (go_at_call 11; have hP := hO; clear hO q0 q1 q2 q3; refine (ks.out _ hP.out).mono ?_; clear hP; rintro e w9 ⟨rfl, hO⟩; have q0 := cell_of_row w9 w.heap.size 0 _ _ _ hO.out.one.box; have q1 := cell_of_row w9 w.heap.size 1 _ _ _ hO.out.one.box; have q2 := cell_of_row w9 w.heap.size 2 _ _ _ hO.out.one.box; have q3 := cell_of_row w9 w.heap.size 3 _ _ _ hO.out.one.box) | (go_at_call 13; have hP := hO; clear hO q0 q1 q2 q3; refine (kr.out _ hP.out).mono ?_; clear hP; rintro e w9 ⟨rfl, hO⟩; have q0 := cell_of_row w9 w.heap.size 0 _ _ _ hO.out.one.box; have q1 := cell_of_row w9 w.heap.size 1 _ _ _ hO.out.one.box; have q2 := cell_of_row w9 w.heap.size 2 _ _ _ hO.out.one.box; have q3 := cell_of_row w9 w.heap.size 3 _ _ _ hO.out.one.box) | (go_at_call 8; have hP := hO; clear hO q0 q1 q2 q3; refine (kt.out _ hP.out).mono ?_; clear hP; rintro e w9 ⟨B9, d9, rfl, hO⟩; have q0 := cell_of_row w9 w.heap.size 0 _ _ _ hO.out.one.box; have q1 := cell_of_row w9 w.heap.size 1 _ _ _ hO.out.one.box; have q2 := cell_of_row w9 w.heap.size 2 _ _ _ hO.out.one.box; have q3 := cell_of_row w9 w.heap.size 3 _ _ _ hO.out.one.box))
    go_wp2_with fail
    exact hA.out _ _ _ _ _ _ _ _ _ _ _ _ _ _ _ _ _ _ hO.out
end Go.Proofs.YthmchdpinobbgaaGreatDoor
