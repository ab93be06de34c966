/-
  The reference of chapter 4: a token in a list of its own, lists in one. Conditions: the lists can be read; together they have at most 65536 tokens.
  The walk of the reference's Digits. Condition: a number from nought to 2^31.
  The reference of chapter 4: what a call gathers of lists; a kid's tokens. Conditions: the term can be read.
  The reference of chapter 4: the tokens of whatever term is right. Conditions: the term can be read; it has at most 10000 terms.
  The walk of the reference's Print. Conditions: the tokens can be read; what is printed is shorter than 2^46 bytes.
-/
import Derived.Test.YthmchdpinobbgaaGreatDoorShShow
import Derived.Test.YthmchdpinobbgaaGreatDoorTmOwn
import Derived.Test.YthmchdpinobbgaaGreatDoorLxBase
import Derived.Test.YthmchdpinobbgaaGreatDoorLxRef
import Derived.Laws.IdiomStrings
import Derived.Deep.RegionHeld3
import Derived.Deep.DrawnRows
import Derived.Test.YthmchdpinobbgaaGreatDoorLxW5
import Derived.Deep.QuietTactic
import Derived.BigQuiet
namespace Go.Proofs.YthmchdpinobbgaaGreatDoor
open Go.RowKit Go.Shelf Go.Tm Go.Lx Go.Maps
attribute [local go_sem] Oper.semAt_some

/-- the cells of tokens behind a slice -/
theorem toks_cells {W : World} {b : Nat} : ∀ {ts : List Tok} {off : Nat}, (∀ j, j < ts.length → W.cell? ⟨b, off + j * 3, none⟩ = some (.int .i64 (ts.getD j ⟨0, [], 0⟩).kind) ∧ W.cell? ⟨b, off + j * 3 + 1, none⟩ = some (.string (X.strOf (ts.getD j ⟨0, [], 0⟩).text)) ∧ W.cell? ⟨b, off + j * 3 + 2, none⟩ = some (.int .i64 (ts.getD j ⟨0, [], 0⟩).num)) →
    ∀ (i : Nat) (u : Value), (toksC ts)[i]? = some u → W.cell? ⟨b, off + i, none⟩ = some u
  | [], off, _, i, u, hu => by cases hu
  | x :: ts, off, hc, i, u, hu => by
    have h0 := hc 0 (by simp)
    simp only [Nat.zero_mul, Nat.add_zero, List.getD_cons_zero] at h0
    rw [show toksC (x :: ts) = tokC x ++ toksC ts from rfl] at hu
    match i with
    | 0 => rw [← hu]; exact h0.1
    | 1 => rw [← hu]; exact h0.2.1
    | 2 => rw [← hu]; exact h0.2.2
    | i + 3 =>
      rw [List.getElem?_append_right (by show 3 ≤ _; omega)] at hu
      have := toks_cells (ts := ts) (off := off + 3) (fun j hj => by
        have h := hc (j + 1) (by simpa using hj)
        rw [show off + (j + 1) * 3 = off + 3 + j * 3 by omega] at h
        simpa using h) i u (by simpa [tokC] using hu)
      rw [show off + (i + 3) = off + 3 + i by omega]; exact this
theorem toks_one {W : World} {g : Nat} {k n : Int} {s : ByteArray} {ty : TypeId} (h : W.heap[g]? = some (.cells #[.int .i64 k, .string s, .int .i64 n] ty (0, 0))) : X.Toks W W.heap.size (some ⟨g, 0, none⟩) [⟨k, s.data.toList, n⟩] := fun _ => by
  refine ⟨g, 0, rfl, World.lt_of_get h, fun j hj => ?_⟩
  obtain rfl : j = 0 := by simpa using hj
  rw [cell_of_row W g 0 _ _ _ h, cell_of_row W g 1 _ _ _ h, cell_of_row W g 2 _ _ _ h]
  refine ⟨rfl, ?_, rfl⟩
  show some (Value.string s) = some (Value.string (X.strOf s.data.toList))
  rw [X.strOf_data]

theorem mark_any (s : ByteArray) (w : World) : Calls Tryz.prog 38 #[.string s] w fun e w' => ∃ g, e = .returned (.slice (some ⟨g, 0, none⟩) 1 1) ∧ X.Toks w' w'.heap.size (some ⟨g, 0, none⟩) [mTok s.data.toList] ∧ w.heap.size ≤ g ∧ Below w.heap.size w w' := by
  go_enter Tryz.func38, Tryz.ntmps38
  go_wp2_with fail
  go_ret
  exact ⟨_, rfl, toks_one (World.alloc_heap_new w (.cells #[.int .i64 4, .string s, .int .i64 0] 40)), Nat.le_refl _, later_alloc _ _⟩
theorem key_any (s : ByteArray) (w : World) : Calls Tryz.prog 37 #[.string s] w fun e w' => ∃ g, e = .returned (.slice (some ⟨g, 0, none⟩) 1 1) ∧ X.Toks w' w'.heap.size (some ⟨g, 0, none⟩) [kTok s.data.toList] ∧ w.heap.size ≤ g ∧ Below w.heap.size w w' := by
  go_enter Tryz.func37, Tryz.ntmps37
  go_wp2_with fail
  go_ret
  exact ⟨_, rfl, toks_one (World.alloc_heap_new w (.cells #[.int .i64 3, .string s, .int .i64 0] 40)), Nat.le_refl _, later_alloc _ _⟩
theorem name_anyR (s : ByteArray) (w : World) : Calls Tryz.prog 36 #[.string s] w fun e w' => ∃ g, e = .returned (.slice (some ⟨g, 0, none⟩) 1 1) ∧ X.Toks w' w'.heap.size (some ⟨g, 0, none⟩) [nTok s.data.toList] ∧ w.heap.size ≤ g ∧ Below w.heap.size w w' := by
  go_enter Tryz.func36, Tryz.ntmps36
  go_wp2_with fail
  go_ret
  exact ⟨_, rfl, toks_one (World.alloc_heap_new w (.cells #[.int .i64 1, .string s, .int .i64 0] 40)), Nat.le_refl _, later_alloc _ _⟩

/-- tokens behind a slice: where, its room, which -/
abbrev It := Nat × Nat × Nat × List Tok
def itV (x : It) : Value := .slice (some ⟨x.1, x.2.1, none⟩) x.2.2.2.length x.2.2.1
def itT (x : It) : List Tok := x.2.2.2
def itOk (W : World) (x : It) : Prop := X.Toks W W.heap.size (some ⟨x.1, x.2.1, none⟩) x.2.2.2
theorem itOk.later {W W' : World} {x : It} (h : itOk W x) (hb : Below W.heap.size W W') : itOk W' x := X.Toks.later h hb
/-- lists behind a slice -/
def LL (W : World) (A : Option Addr) (l : List It) : Prop := ∀ j, j < l.length → ∃ b off, A = some ⟨b, off, none⟩ ∧ b < W.heap.size ∧ W.cell? ⟨b, off + j, none⟩ = some (itV (l.getD j (0, 0, 0, []))) ∧ itOk W (l.getD j (0, 0, 0, []))
theorem LL.later {W W' : World} {A : Option Addr} {l : List It} (h : LL W A l) (hb : Below W.heap.size W W') : LL W' A l := fun j hj => by
  obtain ⟨b, off, h1, h2, h3, h4⟩ := h j hj
  exact ⟨b, off, h1, Nat.lt_of_lt_of_le h2 hb.size, (hb.cell (p := ⟨b, off + j, none⟩) h2).trans h3, h4.later hb⟩
theorem info_tok2 : (Tryz.prog.info? 40).map (fun i => (i.zero, i.size, i.bytes)) = some (some (.agg #[.int .i64 0, .string ⟨#[]⟩, .int .i64 0]), 3, 32) := by kernel_rfl
theorem itflat_snoc (l : List It) (k : Nat) (hk : k < l.length) : (l.take (k + 1)).flatMap itT = (l.take k).flatMap itT ++ itT (l.getD k (0, 0, 0, [])) := by
  rw [List.take_succ_eq_append_getElem hk, List.flatMap_append, List.getD_eq_getElem?_getD, List.getElem?_eq_getElem hk]
  simp
theorem itflat_le (l : List It) (k : Nat) : ((l.take k).flatMap itT).length ≤ (l.flatMap itT).length := by
  conv => rhs; rw [← List.take_append_drop k l, List.flatMap_append, List.length_append]
  omega
theorem toksC_len (l : List Tok) : (toksC l).length = l.length * 3 := by
  induction l with
  | nil => rfl
  | cons x l ih => rw [show toksC (x :: l) = tokC x ++ toksC l from rfl, List.length_append, ih, List.length_cons]; show 3 + _ = _; omega
theorem toksC_one (l : List Tok) (u : Value) (hu : u ∈ toksC l) : u.oneCell' = true := by
  obtain ⟨t, _, h⟩ := List.mem_flatMap.1 hu
  exact tok_one t u h

/-- what a row of the call's own holds, read as tokens -/
theorem own_toks {W : World} {g : Nat} {cur : Array Value} {ty : TypeId} {l : List Tok} (hg : W.heap[g]? = some (.cells cur ty (0, 0))) (h : cur.toList.take (l.length * 3) = toksC l) : ∀ j, j < l.length → W.cell? ⟨g, 0 + j * 3, none⟩ = some (.int .i64 (l.getD j ⟨0, [], 0⟩).kind) ∧ W.cell? ⟨g, 0 + j * 3 + 1, none⟩ = some (.string (X.strOf (l.getD j ⟨0, [], 0⟩).text)) ∧ W.cell? ⟨g, 0 + j * 3 + 2, none⟩ = some (.int .i64 (l.getD j ⟨0, [], 0⟩).num) := by
  have key : ∀ i, i < l.length * 3 → W.cell? ⟨g, i, none⟩ = (toksC l)[i]? := fun i hi => by
    rw [cell_of_row W g i _ _ _ hg, ← h, List.getElem?_take_of_lt hi, Array.getElem?_toList]
  have three : ∀ (l : List Tok) (j : Nat), j < l.length → (toksC l)[j * 3]? = some (.int .i64 (l.getD j ⟨0, [], 0⟩).kind) ∧ (toksC l)[j * 3 + 1]? = some (.string (X.strOf (l.getD j ⟨0, [], 0⟩).text)) ∧ (toksC l)[j * 3 + 2]? = some (.int .i64 (l.getD j ⟨0, [], 0⟩).num) := fun l => by
    induction l with
    | nil => intro j hj; cases hj
    | cons x l ih =>
      intro j hj
      rw [show toksC (x :: l) = tokC x ++ toksC l from rfl]
      cases j with
      | zero => exact ⟨rfl, rfl, rfl⟩
      | succ j =>
        have h3 : (tokC x).length = 3 := rfl
        rw [List.getElem?_append_right (by omega), List.getElem?_append_right (by omega), List.getElem?_append_right (by omega), h3, show (j + 1) * 3 - 3 = j * 3 by omega, show (j + 1) * 3 + 1 - 3 = j * 3 + 1 by omega, show (j + 1) * 3 + 2 - 3 = j * 3 + 2 by omega]
        exact ih j (by simpa using hj)
  intro j hj
  rw [Nat.zero_add, key _ (by omega), key _ (by omega), key _ (by omega)]
  exact three l j hj

theorem toks_ownR {W : World} {base : Nat} {v : Value} {l : List Tok} {ty : TypeId} (h : W.ownsRow base ty 3 v l.length (toksC l)) : ∃ A c, v = .slice A l.length c ∧ X.Toks W W.heap.size A l ∧ ∀ b o, A = some ⟨b, o, none⟩ → base ≤ b := by
  obtain ⟨h1, ⟨rfl, h2⟩ | ⟨g, cap, cur, rfl, hb, hg, r1, r2, r3, r4⟩⟩ := h
  · have h3 : l = [] := List.eq_nil_of_length_eq_zero h2
    refine ⟨none, 0, by rw [h2], ?_, fun b o e => by cases e⟩
    rw [h3]; exact X.Toks.nil _ _ _
  · exact ⟨_, _, rfl, fun hne => ⟨g, 0, rfl, World.lt_of_get hg, own_toks hg r4⟩, fun b o e => by cases e; exact hb⟩

set_option maxRecDepth 100000 in
set_option maxHeartbeats 2000000 in
theorem join_any (l : List It) (A : Option Addr) (c : Nat) (w : World) (hA : LL w A l) (hn : ∀ x ∈ l, itT x ≠ []) (hl : (l.flatMap itT).length ≤ 65536) (hl2 : l.length ≤ 65536) :
    Calls Tryz.prog 40 #[.slice A l.length c] w fun e w' => ∃ B d, e = .returned (.slice B (l.flatMap itT).length d) ∧ X.Toks w' w'.heap.size B (l.flatMap itT) ∧ (∀ b o, B = some ⟨b, o, none⟩ → w.heap.size ≤ b) ∧ Below w.heap.size w w' := by
  obtain ⟨i0, hi, hi2⟩ := Option.map_eq_some_iff.1 info_tok2
  obtain ⟨hz0, hz1, hz2⟩ : i0.zero = some (.agg #[.int .i64 0, .string ⟨#[]⟩, .int .i64 0]) ∧ i0.size = 3 ∧ i0.bytes = 32 := by
    injection hi2 with h1 h2; injection h2 with h2 h3; exact ⟨h1, h2, h3⟩
  replace hi := Lib.hid hi
  replace hz0 := Lib.hid hz0
  replace hz1 := Lib.hid hz1
  replace hz2 := Lib.hid hz2
  clear hi2
  replace hA := Lib.hid hA
  replace hn := Lib.hid hn
  obtain ⟨L, hL⟩ : ∃ L, l.length = L := ⟨_, rfl⟩
  rw [hL] at hl2 ⊢
  replace hL := Lib.hid hL
  go_enter Tryz.func40, Tryz.ntmps40
  go_wp2_with fail
  go_loopw [3, 4] (fun v i wr => ∃ (k : Nat) (v' : Value), k ≤ L ∧ i = .int .i64 k ∧ v = v' ∧ Hid (wr.ownsRow w.heap.size 40 3 v' ((l.take k).flatMap itT).length (toksC ((l.take k).flatMap itT))) ∧ Hid (Below w.heap.size w wr)) (fun _ i _ => L - (intOf i).toNat)
  case atStart => exact ⟨0, _, Nat.zero_le _, rfl, rfl, by show World.ownsRow _ _ _ _ _ _ _; rw [List.take_zero]; exact World.ownsRow_nil _ _ _ _, Below.refl _ _⟩
  case round =>
    obtain ⟨k, v', hk, rfl, rfl, hown, hB⟩ := hrel
    by_cases hlt : k < L
    · have hk9 : k < l.length := by rw [hL.out]; exact hlt
      obtain ⟨b, off, rfl, hb, hc, hok⟩ := (hA.out.later hB.out) k hk9
      have hsn := itflat_snoc l k hk9
      have hle := itflat_le l (k + 1)
      have hne : itT (l.getD k (0, 0, 0, [])) ≠ [] := hn.out _ (by rw [List.getD_eq_getElem?_getD, List.getElem?_eq_getElem hk9]; exact List.getElem_mem _)
      obtain ⟨x, hx⟩ : ∃ x, l.getD k (0, 0, 0, []) = x := ⟨_, rfl⟩
      rw [hx] at hc hok hsn hne
      obtain ⟨xb, xo, hxA, hxb, hxc⟩ := hok hne
      cases hxA
      have hcells := Lib.hid (toks_cells hxc)
      clear hok hxc
      replace hx := Lib.hid hx
      obtain ⟨gs, hgs⟩ : ∃ gs, (l.take k).flatMap itT = gs := ⟨_, rfl⟩
      rw [hgs] at hown hsn
      have hlen : gs.length + (itT x).length ≤ 65536 := by
        rw [hsn, List.length_append] at hle
        omega
      unfold itV at hc
      replace hsn := Lib.hid hsn
      replace hgs := Lib.hid hgs
      replace hne := Lib.hid hne
      have hBs := hB.out.size
      have hm : (itT x).length = x.2.2.2.length := rfl
      rw [hm] at hlen
      go_wp2_with (at_builtin; refine wpList_append_own _ rfl _ _ 28 rfl w.heap.size 40 i0 (.agg #[.int .i64 0, .string ⟨#[]⟩, .int .i64 0]) 3 32 Tryz.underlying28 hi.out hz0.out hz1.out hz2.out rfl (by decide) _ _ _ rfl hown.out ⟨x.1, x.2.1, none⟩ x.2.2.2.length x.2.2.1 (toksC x.2.2.2) rfl (toksC_len _) ?c1 ?c2 ?c3 ?c4 ?c5 ?_)
      case c1 =>
        intro j u hj
        rw [add_off]
        exact hcells.out j u hj
      case c2 => exact toksC_one _
      case c3 => unfold maxLen; omega
      case c4 => omega
      case c5 => exact hBs
      · intro v'' w1 hown' hgrow _
        have hown2 : Hid (w1.ownsRow w.heap.size 40 3 v'' ((l.take (k + 1)).flatMap itT).length (toksC ((l.take (k + 1)).flatMap itT))) := by
          show World.ownsRow _ _ _ _ _ _ _
          rw [hsn.out, toksC_app, List.length_append]
          exact hown'
        have hb2 : Hid (Below w.heap.size w w1) := hB.out.grown hgrow hBs fun _ hg => (own_at hown.out hg).choose_spec.2
        clear hown' hgrow
        go_wp2_with fail
        go_roundw
        case rel => exact ⟨k + 1, _, by omega, by go_num, rfl, hown2.out, hb2.out⟩
        case measure => simp [intOf]; omega
    · obtain rfl : k = L := by omega
      have h9 : (l.take k).flatMap itT = l.flatMap itT := by rw [← hL.out, List.take_length]
      rw [h9] at hown
      obtain ⟨B, d, hv, hTk, hfr⟩ := toks_ownR hown.out
      cases hv
      replace h9 := Lib.hid h9
      replace hTk := Lib.hid hTk
      replace hfr := Lib.hid hfr
      clear hown
      go_wp2_with fail
      go_ret
      exact ⟨_, _, rfl, hTk.out, hfr.out, hB.out⟩
end Go.Proofs.YthmchdpinobbgaaGreatDoor
namespace Go.Proofs.YthmchdpinobbgaaGreatDoor.X
open Go.RowKit Go.Lx Go.Shelf
attribute [local go_sem] Oper.semAt_some
theorem dec_step {m : Nat} (h : 9 < m) : Lib.decDigits m = Lib.decDigits (m / 10) ++ [UInt8.ofNat (48 + m % 10)] := by
  rw [Lib.decDigits, dif_neg (by omega)]
theorem conv_one (w : World) (x : Nat) (hx : x < 256) : (convert 25 9 (.slice (some ⟨w.heap.size, 0, none⟩) 1 1)).run Tryz.prog (w.alloc (.cells #[.int .u8 (x : Int)] 5)) = .ok (.string (strOf [UInt8.ofNat x])) (w.alloc (.cells #[.int .u8 (x : Int)] 5)) := by
  have h := run_convert_bytes_back (P := Tryz.prog) (w.alloc (.cells #[.int .u8 (x : Int)] 5)) 25 9 5 ⟨w.heap.size, 0, none⟩ 1 [UInt8.ofNat x] Tryz.underlying25 Tryz.underlying5 Tryz.underlying9 (fun j hj => by
    obtain rfl : j = 0 := by simp at hj; omega
    have e : (⟨w.heap.size, 0, none⟩ : Addr).add 0 = ⟨w.heap.size, 0, none⟩ := rfl
    rw [e, cell_of_row _ w.heap.size 0 #[.int .u8 (x : Int)] 5 (0, 0) (by show (w.heap.push _)[w.heap.size]? = _; simp)]
    have e2 : (UInt8.ofNat x).toNat = x := by rw [UInt8.toNat_ofNat']; omega
    show _ = some (Value.int .u8 ((UInt8.ofNat x).toNat : Int))
    rw [e2]
    rfl)
  exact h
theorem strOf_cons (b : UInt8) (P : List UInt8) : strOf [b] ++ strOf P = strOf (b :: P) := by
  have h : (strOf [b] ++ strOf P).data.toList = (strOf (b :: P)).data.toList := by
    rw [ByteArray.data_append, Array.toList_append, data_strOf, data_strOf, data_strOf]; rfl
  rw [← strOf_data (strOf [b] ++ strOf P), h, strOf_data]

set_option maxRecDepth 100000 in
set_option maxHeartbeats 1000000 in
theorem digits_any (n : Nat) (hn : n < 2147483648) (w : World) : Calls Tryz.prog 35 #[.int .i64 (n : Int)] w fun e w' => e = .returned (.string (strOf (Lib.decDigits n))) ∧ Below w.heap.size w w' := by
  have hlen : (Lib.decDigits n).length ≤ 10 := by rw [Lib.decDigits_length]; exact nDigits_le 9 _ (by omega)
  replace hlen := Lib.hid hlen
  go_enter Tryz.func35, Tryz.ntmps35
  go_wp2_with fail
  go_loopw [0, 3] (fun a v wr => ∃ (m : Nat) (P : List UInt8), a = .int .i64 m ∧ v = .string (strOf P) ∧ m ≤ n ∧ Hid (Lib.decDigits m ++ P = Lib.decDigits n) ∧ Hid (Below w.heap.size w wr)) (fun a _ _ => (intOf a).toNat)
  case atStart => exact ⟨n, [], rfl, rfl, Nat.le_refl _, by show _ ++ [] = _; rw [List.append_nil], Below.refl _ _⟩
  case round =>
    obtain ⟨m, P, rfl, rfl, hm, hdec, hB⟩ := hrel
    have hP : (strOf P).size ≤ 10 := by
      rw [size_strOf]
      have h1 := congrArg List.length hdec.out
      rw [List.length_append] at h1
      have := hlen.out
      omega
    by_cases h9 : 9 < m
    · have hst : Hid (Lib.decDigits (m / 10) ++ (UInt8.ofNat (48 + m % 10) :: P) = Lib.decDigits n) := by
        show _ = _
        rw [← hdec.out, dec_step h9]; simp
      have hx := Lib.hid (strOf_cons (UInt8.ofNat (48 + m % 10)) P)
      have hcv := conv_one wr (48 + m % 10) (by omega)
      have hb9 : Hid (Below w.heap.size w (wr.alloc (.cells #[.int .u8 ((48 + m % 10 : Nat) : Int)] 5))) := hB.out.alloc hB.out.size _
      have e1 : ((48 + m % 10 : Nat) : Int) = 48 + (m : Int) % 10 := by omega
      rw [e1] at hcv hb9
      have e2 : IntKind.u8.wrap (48 + (m : Int) % 10) = 48 + (m : Int) % 10 := by
        rw [IntKind.wrap_u8]; omega
      have hsz : (strOf [UInt8.ofNat (48 + m % 10)]).size ≤ 1 := by rw [size_strOf]; exact Nat.le_refl _
      generalize strOf [UInt8.ofNat (48 + m % 10)] = D0 at hx hcv hsz
      clear hdec e1
      go_wp2_with fail
      go_roundw
      case rel => exact ⟨m / 10, _, by go_num, by rw [hx.out], by omega, hst, hb9⟩
      case measure => simp [intOf]; omega
    · have hst : Hid (strOf [UInt8.ofNat (48 + m)] ++ strOf P = strOf (Lib.decDigits n)) := by
        show _ = _
        rw [strOf_cons, ← hdec.out, Lib.decDigits_one (by omega)]; rfl
      have hcv := conv_one wr (48 + m) (by omega)
      have hb9 : Hid (Below w.heap.size w (wr.alloc (.cells #[.int .u8 ((48 + m : Nat) : Int)] 5))) := hB.out.alloc hB.out.size _
      have e1 : ((48 + m : Nat) : Int) = 48 + (m : Int) := by omega
      rw [e1] at hcv hb9
      have e2 : IntKind.u8.wrap (48 + (m : Int)) = 48 + (m : Int) := by
        rw [IntKind.wrap_u8]; omega
      have hsz : (strOf [UInt8.ofNat (48 + m)]).size ≤ 1 := by rw [size_strOf]; exact Nat.le_refl _
      generalize strOf [UInt8.ofNat (48 + m)] = D0 at hst hcv hsz
      clear hdec e1
      go_wp2_with fail
      go_ret
      exact ⟨by rw [← hst.out]; rfl, hb9.out⟩

end Go.Proofs.YthmchdpinobbgaaGreatDoor.X
namespace Go.Proofs.YthmchdpinobbgaaGreatDoor
open Go.RowKit Go.Shelf Go.Tm Go.Lx Go.Maps
attribute [local go_sem] Oper.semAt_some

/-- the lists gathered so far, each laid behind b0; the term in its box -/
structure AccR (w W : World) (t : Go.Tm.T) (A : Option Addr) (c bx b0 : Nat) (o : Obj) (its : List It) : Prop where
  below : Below w.heap.size w W
  tm : TmV W (· < W.heap.size) t A c
  box : W.heap[bx]? = some (.cells #[.int .i64 t.kind, .string t.name, .int .i64 t.num, .slice A t.kids.length c] 35 (0, 0))
  keep : W.heap[b0]? = some o
  ok : ∀ x ∈ its, itOk W x ∧ b0 < x.1 ∧ itT x ≠ []
theorem AccR.later {w W W' : World} {t : Go.Tm.T} {A : Option Addr} {c bx b0 : Nat} {o : Obj} {its : List It} (h : AccR w W t A c bx b0 o its) (hb : Below W.heap.size W W') : AccR w W' t A c bx b0 o its :=
  ⟨h.below.trans (hb.mono h.below.size), h.tm.later hb, (hb.block _ (World.lt_of_get h.box)).trans h.box, (hb.block _ (World.lt_of_get h.keep)).trans h.keep, fun x hx => ⟨(h.ok x hx).1.later hb, (h.ok x hx).2⟩⟩
theorem AccR.push {w W W' : World} {t : Go.Tm.T} {A : Option Addr} {c bx b0 : Nat} {o : Obj} {its : List It} {x : It} (h : AccR w W t A c bx b0 o its) (hb : Below W.heap.size W W') (hx : itOk W' x) (hn : itT x ≠ []) (hg : W.heap.size ≤ x.1) : AccR w W' t A c bx b0 o (its ++ [x]) := by
  have h1 := h.later hb
  refine ⟨h1.below, h1.tm, h1.box, h1.keep, fun y hy => ?_⟩
  rcases List.mem_append.1 hy with hy | hy
  · exact h1.ok y hy
  · obtain rfl := List.mem_singleton.1 hy
    exact ⟨hx, Nat.lt_of_lt_of_le (World.lt_of_get h.keep) hg, hn⟩
theorem AccR.boxA {w W : World} {t : Go.Tm.T} {A : Option Addr} {c bx b0 : Nat} {o : Obj} {its : List It} (h : AccR w W t A c bx b0 o its) (ob : Obj) : (W.alloc ob).cell? ⟨bx, 0, none⟩ = some (.int .i64 t.kind) ∧ (W.alloc ob).cell? ⟨bx, 1, none⟩ = some (.string t.name) ∧ (W.alloc ob).cell? ⟨bx, 2, none⟩ = some (.int .i64 t.num) ∧ (W.alloc ob).cell? ⟨bx, 3, none⟩ = some (.slice A t.kids.length c) := by
  have hb := ((later_alloc W ob).block _ (World.lt_of_get h.box)).trans h.box
  exact ⟨cell_of_row _ _ 0 _ _ _ hb, cell_of_row _ _ 1 _ _ _ hb, cell_of_row _ _ 2 _ _ _ hb, cell_of_row _ _ 3 _ _ _ hb⟩
/-- what a term's tokens are told as -/
def TokR (t : Go.Tm.T) : Prop := t.size ≤ 10000 → ∀ (A : Option Addr) (c : Nat) (w : World), TmV w (· < w.heap.size) t A c → Calls Tryz.prog 19 #[tmV t A c] w fun e w' =>
  ∃ b o d, e = .returned (.slice (some ⟨b, o, none⟩) (toksT t).length d) ∧ itOk w' (b, o, d, toksT t) ∧ w.heap.size ≤ b ∧ Below w.heap.size w w'
/-- lists in a block of their own -/
theorem ll_new {W : World} {its : List It} {ty : TypeId} (h : ∀ x ∈ its, itOk W x) : LL (W.alloc (.cells (its.map itV).toArray ty)) (some ⟨W.heap.size, 0, none⟩) its := fun j hj => by
  refine ⟨W.heap.size, 0, rfl, by simp, ?_, ?_⟩
  · rw [Nat.zero_add, cell_of_row _ W.heap.size j _ _ _ (World.alloc_heap_new W _), List.getElem?_toArray, List.getElem?_map, List.getElem?_eq_getElem hj, List.getD_eq_getElem?_getD, List.getElem?_eq_getElem hj]; rfl
  · exact (h _ (by rw [List.getD_eq_getElem?_getD, List.getElem?_eq_getElem hj]; exact List.getElem_mem _)).later (later_alloc _ _)
theorem mark_acc {w W : World} {t : Go.Tm.T} {A : Option Addr} {c bx b0 : Nat} {o : Obj} {its : List It} (s : ByteArray) (h : AccR w W t A c bx b0 o its) : Calls Tryz.prog 38 #[.string s] W fun e w' => ∃ g, e = .returned (.slice (some ⟨g, 0, none⟩) 1 1) ∧ Hid (AccR w w' t A c bx b0 o (its ++ [(g, 0, 1, [mTok s.data.toList])])) :=
  (mark_any s W).mono fun e w' ⟨g, h1, h2, h3, h4⟩ => ⟨g, h1, h.push h4 h2 (by simp [itT]) h3⟩
theorem key_acc {w W : World} {t : Go.Tm.T} {A : Option Addr} {c bx b0 : Nat} {o : Obj} {its : List It} (s : ByteArray) (h : AccR w W t A c bx b0 o its) : Calls Tryz.prog 37 #[.string s] W fun e w' => ∃ g, e = .returned (.slice (some ⟨g, 0, none⟩) 1 1) ∧ Hid (AccR w w' t A c bx b0 o (its ++ [(g, 0, 1, [kTok s.data.toList])])) :=
  (key_any s W).mono fun e w' ⟨g, h1, h2, h3, h4⟩ => ⟨g, h1, h.push h4 h2 (by simp [itT]) h3⟩
theorem name_acc {w W : World} {t : Go.Tm.T} {A : Option Addr} {c bx b0 : Nat} {o : Obj} {its : List It} (s : ByteArray) (h : AccR w W t A c bx b0 o its) : Calls Tryz.prog 36 #[.string s] W fun e w' => ∃ g, e = .returned (.slice (some ⟨g, 0, none⟩) 1 1) ∧ Hid (AccR w w' t A c bx b0 o (its ++ [(g, 0, 1, [nTok s.data.toList])])) :=
  (name_anyR s W).mono fun e w' ⟨g, h1, h2, h3, h4⟩ => ⟨g, h1, h.push h4 h2 (by simp [itT]) h3⟩
/-- all that was gathered, in one -/
theorem join_acc {w W : World} {t : Go.Tm.T} {A : Option Addr} {c bx b0 : Nat} {o : Obj} {its : List It} (n : Nat) (l9 : List Tok) (hn : its.length = n) (h9 : its.flatMap itT = l9) (h : AccR w W t A c bx b0 o its) (hl : l9.length ≤ 65536) (h0 : its ≠ []) (h2 : n ≤ 65536) : Calls Tryz.prog 40 #[.slice (some ⟨W.heap.size, 0, none⟩) n n] (W.alloc (.cells (its.map itV).toArray 28)) fun e w' =>
    ∃ b o9 d, e = .returned (.slice (some ⟨b, o9, none⟩) l9.length d) ∧ itOk w' (b, o9, d, l9) ∧ W.heap.size ≤ b ∧ Hid (AccR w w' t A c bx b0 o its) := by
  subst hn
  subst h9
  refine (join_any its _ _ _ (ll_new fun x hx => (h.ok x hx).1) (fun x hx => (h.ok x hx).2.2) hl h2).mono fun e w' ⟨B, d, h3, h4, h5, h6⟩ => ?_
  have hne : its.flatMap itT ≠ [] := by
    obtain ⟨x, l, rfl⟩ := List.exists_cons_of_ne_nil h0
    rw [List.flatMap_cons]
    intro e
    exact (h.ok x (by simp)).2.2 (List.append_eq_nil_iff.1 e).1
  obtain ⟨b, o9, rfl, _⟩ := h4 hne
  refine ⟨b, o9, d, h3, h4, ?_, h.later ((later_alloc W _).trans (h6.mono (by simp)))⟩
  have := h5 b o9 rfl
  simp at this
  omega

set_option maxRecDepth 100000 in
set_option maxHeartbeats 2000000 in
/-- a kid's tokens -/
theorem kid_anyR (t u : Go.Tm.T) (i : Nat) (hi : i < t.kids.length) (hu : t.kids.getD i default = u) (hr : Rt u) (hz : u.size ≤ 10000) (IH : TokR u) (A : Option Addr) (c : Nat) (w : World) (hT : TmV w (· < w.heap.size) t A c) :
    Calls Tryz.prog 39 #[tmV t A c, .int .i64 i] w fun e w' => ∃ b o d, e = .returned (.slice (some ⟨b, o, none⟩) (kidT u).length d) ∧ itOk w' (b, o, d, kidT u) ∧ w.heap.size ≤ b ∧ Below w.heap.size w w' := by
  obtain ⟨kb, ko, rfl, hrow⟩ := hT.row.resolve_left (fun e => by rw [e] at hi; cases hi)
  obtain ⟨B, d, hh, hv⟩ := node_tmv (hrow.get i hi)
  rw [hu] at hh hv
  have h0 := hh.kind
  have h1 := hh.name
  have h2 := hh.num
  have h3 := hh.kids
  have hkb : kb < w.heap.size := hh.at_
  have hlen := (toks_len hr).2
  have hl : (toksT u).length ≤ 65000 := by have := (toks_len hr).1; omega
  clear hrow hh hT
  unfold tmV
  obtain ⟨L, hL⟩ : ∃ L, t.kids.length = L := ⟨_, rfl⟩
  rw [hL] at hi ⊢
  replace hL := Lib.hid hL
  replace hu := Lib.hid hu
  have hbV : Below w.heap.size w (w.alloc (.cells #[.int .i64 t.kind, .string t.name, .int .i64 t.num, .slice (some ⟨kb, ko, none⟩) L c] 35)) := later_alloc _ _
  have hVs : (w.alloc (.cells #[.int .i64 t.kind, .string t.name, .int .i64 t.num, .slice (some ⟨kb, ko, none⟩) L c] 35)).heap.size = w.heap.size + 1 := by simp
  have p3 := cell_of_row _ w.heap.size 3 _ _ _ (World.alloc_heap_new w (.cells #[.int .i64 t.kind, .string t.name, .int .i64 t.num, .slice (some ⟨kb, ko, none⟩) L c] 35))
  replace h0 := (hbV.cell (p := ⟨kb, ko + i * 4, none⟩) hkb).trans h0
  replace h1 := (hbV.cell (p := ⟨kb, ko + i * 4 + 1, none⟩) hkb).trans h1
  replace h2 := (hbV.cell (p := ⟨kb, ko + i * 4 + 2, none⟩) hkb).trans h2
  replace h3 := (hbV.cell (p := ⟨kb, ko + i * 4 + 3, none⟩) hkb).trans h3
  have hvV := hv.later hbV
  have hbx2 := World.alloc_heap_new (w.alloc (.cells #[.int .i64 t.kind, .string t.name, .int .i64 t.num, .slice (some ⟨kb, ko, none⟩) L c] 35)) (.cells #[.int .i64 u.kind, .string u.name, .int .i64 u.num, .slice B u.kids.length d] 35)
  rw [hVs] at hbx2
  have hO : Hid (AccR w ((w.alloc (.cells #[.int .i64 t.kind, .string t.name, .int .i64 t.num, .slice (some ⟨kb, ko, none⟩) L c] 35)).alloc (.cells #[.int .i64 u.kind, .string u.name, .int .i64 u.num, .slice B u.kids.length d] 35)) u B d (w.heap.size + 1) (w.heap.size + 1) (.cells #[.int .i64 u.kind, .string u.name, .int .i64 u.num, .slice B u.kids.length d] 35 (0, 0)) []) :=
    ⟨hbV.trans ((later_alloc (w.alloc (.cells #[.int .i64 t.kind, .string t.name, .int .i64 t.num, .slice (some ⟨kb, ko, none⟩) L c] 35)) _).mono hbV.size), hvV.later (later_alloc _ _), hbx2, hbx2, fun x hx => by cases hx⟩
  clear hv hvV hbV hbx2
  replace hVs := Lib.hid hVs
  have it : Hid (∀ W (its : List It), AccR w W u B d (w.heap.size + 1) (w.heap.size + 1) (.cells #[.int .i64 u.kind, .string u.name, .int .i64 u.num, .slice B u.kids.length d] 35 (0, 0)) its → Calls Tryz.prog 19 #[.agg #[.int .i64 u.kind, .string u.name, .int .i64 u.num, .slice B u.kids.length d]] W fun e w' => ∃ b o d9, e = .returned (.slice (some ⟨b, o, none⟩) (toksT u).length d9) ∧ Hid (AccR w w' u B d (w.heap.size + 1) (w.heap.size + 1) (.cells #[.int .i64 u.kind, .string u.name, .int .i64 u.num, .slice B u.kids.length d] 35 (0, 0)) (its ++ [(b, o, d9, toksT u)])) ∧ Hid (itOk w' (b, o, d9, toksT u)) ∧ Hid ((w.heap.size + 1) ≤ b) ∧ Hid (Below w.heap.size w w')) := fun W its h =>
    (IH hz B d W h.tm).mono fun e w' ⟨b, o, d9, g1, g2, g3, g4⟩ => ⟨b, o, d9, g1, h.push g4 g2 (by intro e; unfold itT at e; simp only at e; rw [e] at hlen; cases hlen) g3, g2, by have := World.lt_of_get h.keep; show _ ≤ b; omega, h.below.trans (g4.mono h.below.size)⟩
  replace hr := Lib.hid hr
  have hiI : (i : Int) < (L : Int) := by omega
  have hke : u.kind = 1 ∨ (u.kind ≠ 1 ∧ u.kind = 2) ∨ (u.kind ≠ 1 ∧ u.kind ≠ 2) := by omega
  rcases hke with hk | ⟨hk1, hk2⟩ | ⟨hk1, hk2⟩
  case' inl =>
    have e1 : (u.kind == 1) = true := by rw [hk]; rfl
    have hlf := Lib.hid (show kidT u = toksT u from kid_leaf (by unfold leafK; rw [e1]; rfl))
    replace hk := Lib.hid hk
  case' inr.inl =>
    have e1 : (u.kind == 1) = false := by rw [beq_eq_false_iff_ne]; exact hk1
    have e2 : (u.kind == 2) = true := by rw [hk2]; rfl
    have hlf := Lib.hid (show kidT u = toksT u from kid_leaf (by unfold leafK; rw [e1, e2]; rfl))
    replace hk2 := Lib.hid hk2
  case' inr.inr =>
    have e1 : (u.kind == 1) = false := by rw [beq_eq_false_iff_ne]; exact hk1
    have e2 : (u.kind == 2) = false := by rw [beq_eq_false_iff_ne]; exact hk2
    have hlf := Lib.hid (show kidT u = mTok [40] :: (toksT u ++ [mTok [41]]) from kid_wrap (by unfold leafK; rw [e1, e2]; rfl))
  case inl | inr.inl =>
    go_enter Tryz.func39, Tryz.ntmps39
    go_wp2_with fail
    refine (it.out _ [] hO.out).mono ?_
    rintro e w9 ⟨b9, o9, d9, rfl, _, h5, h6, h7⟩
    go_wp2_with fail
    go_ret
    rw [hlf.out]
    exact ⟨_, _, _, rfl, h5.out, Nat.le_trans (Nat.le_succ _) h6.out, h7.out⟩
  case inr.inr =>
    have hjn := Lib.hid (fun W its n l9 hn h9 h hl h0 h2 => join_acc (w := w) (t := u) (A := B) (c := d) (bx := w.heap.size + 1) (b0 := w.heap.size + 1) (o := (.cells #[.int .i64 u.kind, .string u.name, .int .i64 u.num, .slice B u.kids.length d] 35 (0, 0))) (W := W) (its := its) n l9 hn h9 h hl h0 h2)
    have e9 : Hid (∀ (x1 x3 : Nat) (b o9 d9 : Nat), List.flatMap itT ([] ++ [((x1, 0, 1, [mTok (⟨#[40]⟩ : ByteArray).data.toList]) : It)] ++ [(b, o9, d9, toksT u)] ++ [(x3, 0, 1, [mTok (⟨#[41]⟩ : ByteArray).data.toList])]) = kidT u) := fun _ _ _ _ _ => by
      rw [hlf.out]; simp [itT]
    have hkl : (kidT u).length ≤ 65536 := by have := kid_len u; omega
    obtain ⟨ku, hku⟩ : ∃ l, kidT u = l := ⟨_, rfl⟩
    rw [hku] at e9 hkl ⊢
    replace hku := Lib.hid hku
    have q0 := cell_of_row _ (w.heap.size + 1) 0 _ _ _ hO.out.box
    have q1 := cell_of_row _ (w.heap.size + 1) 1 _ _ _ hO.out.box
    have q2 := cell_of_row _ (w.heap.size + 1) 2 _ _ _ hO.out.box
    have q3 := cell_of_row _ (w.heap.size + 1) 3 _ _ _ hO.out.box
    go_enter Tryz.func39, Tryz.ntmps39
    go_wp2_with fail
    replace hO := Lib.hid (hO.out.later (Below.refl _ _).drew)
    go_region_held3 (fun w' => w'.cell? ⟨w.heap.size + 1, 0, none⟩ = some (.int .i64 u.kind) ∧ w'.cell? ⟨w.heap.size + 1, 1, none⟩ = some (.string u.name) ∧ w'.cell? ⟨w.heap.size + 1, 2, none⟩ = some (.int .i64 u.num) ∧ w'.cell? ⟨w.heap.size + 1, 3, none⟩ = some (.slice B u.kids.length d)) (first | exact ⟨q0, q1, q2, q3⟩ | exact hO.out.boxA _) (first | (go_at_call 38; have hP := hO; clear hO q0 q1 q2 q3; refine (mark_acc _ hP.out).mono ?_; clear hP; rintro e w9 ⟨g9, rfl, hO⟩; have q0 := cell_of_row w9 (w.heap.size + 1) 0 _ _ _ hO.out.box; have q1 := cell_of_row w9 (w.heap.size + 1) 1 _ _ _ hO.out.box; have q2 := cell_of_row w9 (w.heap.size + 1) 2 _ _ _ hO.out.box; have q3 := cell_of_row w9 (w.heap.size + 1) 3 _ _ _ hO.out.box) | (go_at_call 19; have hP := hO; clear hO q0 q1 q2 q3; refine (it.out _ _ hP.out).mono ?_; clear hP; rintro e w9 ⟨b9, o9, d9, rfl, hO, _⟩; have q0 := cell_of_row w9 (w.heap.size + 1) 0 _ _ _ hO.out.box; have q1 := cell_of_row w9 (w.heap.size + 1) 1 _ _ _ hO.out.box; have q2 := cell_of_row w9 (w.heap.size + 1) 2 _ _ _ hO.out.box; have q3 := cell_of_row w9 (w.heap.size + 1) 3 _ _ _ hO.out.box) | (go_at_call 40; have hP := hO; clear hO; refine (hjn.out _ _ 3 ku rfl (e9.out _ _ _ _ _) hP.out hkl (by simp) (by decide)).mono ?_; rintro e w9 ⟨b9, o9, d9, rfl, h5, h6, hO⟩; have hJ := Lib.hid (And.intro h5 (Nat.le_trans hP.out.below.size h6)); clear h5 h6 hP; have q0 := cell_of_row w9 (w.heap.size + 1) 0 _ _ _ hO.out.box; have q1 := cell_of_row w9 (w.heap.size + 1) 1 _ _ _ hO.out.box; have q2 := cell_of_row w9 (w.heap.size + 1) 2 _ _ _ hO.out.box; have q3 := cell_of_row w9 (w.heap.size + 1) 3 _ _ _ hO.out.box))
    go_wp2_with fail
    go_ret
    exact ⟨_, _, _, rfl, hJ.out.1, hJ.out.2, hO.out.below⟩
end Go.Proofs.YthmchdpinobbgaaGreatDoor
namespace Go.Proofs.YthmchdpinobbgaaGreatDoor
open Go.RowKit Go.Shelf Go.Tm Go.Lx Go.Maps
attribute [local go_sem] Oper.semAt_some

theorem info_sl2 : (Tryz.prog.info? 28).map (fun i => (i.zero, i.size, i.bytes)) = some (some (.slice none 0 0), 1, 24) := by kernel_rfl
/-- all that was gathered is put behind a list that has nothing yet -/
theorem app_own {w W w' : World} {t : Go.Tm.T} {A : Option Addr} {c bx b0 : Nat} {its : List It} {v : Value} {ob : Obj} (h : AccR w W t A c bx b0 (.cells #[] 28 (0, 0)) its) (hlo : w.heap.size ≤ b0) (hne : bx ≠ b0)
    (hown : w'.ownsRow b0 28 1 v (0 + its.length) ([] ++ its.map itV)) (hg : (W.alloc ob).grownBy w' (some b0)) : ∃ A9 c9, v = .slice A9 its.length c9 ∧ LL w' A9 its ∧ Below w.heap.size w w' ∧ w'.heap[bx]? = some (.cells #[.int .i64 t.kind, .string t.name, .int .i64 t.num, .slice A t.kids.length c] 35 (0, 0)) := by
  have hB : Below w.heap.size w w' := by
    have h1 := h.below.trans ((later_alloc W ob).mono h.below.size)
    refine ⟨hg.os.trans h1.os, hg.tape.trans h1.tape, hg.output.trans h1.output, Nat.le_trans h1.size hg.size, fun k hk => ?_⟩
    exact (hg.block k (Nat.lt_of_lt_of_le hk h1.size) (fun e => by cases e; omega)).trans (h1.block k hk)
  have hbx : w'.heap[bx]? = some (.cells #[.int .i64 t.kind, .string t.name, .int .i64 t.num, .slice A t.kids.length c] 35 (0, 0)) := by
    have hl := World.lt_of_get h.box
    exact (hg.block bx (by simp; omega) (fun e => by cases e; exact hne rfl)).trans (((later_alloc W ob).block bx hl).trans h.box)
  have hok : ∀ x ∈ its, itOk w' x := fun x hx => by
    obtain ⟨h1, h2, h3⟩ := h.ok x hx
    intro hn
    obtain ⟨b, off, e, hb, hc⟩ := h1 hn
    cases e
    have hb2 : x.1 < (W.alloc ob).heap.size := by simp; omega
    have hk : w'.heap[x.1]? = W.heap[x.1]? := (hg.block x.1 hb2 (fun e => by cases e; omega)).trans ((later_alloc W ob).block x.1 hb)
    refine ⟨x.1, x.2.1, rfl, Nat.lt_of_lt_of_le hb2 hg.size, fun j hj => ?_⟩
    have hc9 := hc j hj
    exact ⟨(World.cell?_of_block (a := ⟨x.1, x.2.1 + j * 3, none⟩) hk).trans hc9.1, (World.cell?_of_block (a := ⟨x.1, x.2.1 + j * 3 + 1, none⟩) hk).trans hc9.2.1, (World.cell?_of_block (a := ⟨x.1, x.2.1 + j * 3 + 2, none⟩) hk).trans hc9.2.2⟩
  rw [Nat.zero_add, List.nil_append] at hown
  obtain ⟨h1, ⟨rfl, h2⟩ | ⟨g, cap, cur, rfl, hb, hgc, r1, r2, r3, r4⟩⟩ := hown
  · exact ⟨none, 0, by rw [h2], fun j hj => by omega, hB, hbx⟩
  · refine ⟨_, _, rfl, fun j hj => ⟨g, 0, rfl, World.lt_of_get hgc, ?_, hok _ (by rw [List.getD_eq_getElem?_getD, List.getElem?_eq_getElem hj]; exact List.getElem_mem _)⟩, hB, hbx⟩
    rw [Nat.zero_add, cell_of_row _ g j _ _ _ hgc, ← Array.getElem?_toList]
    have h3 : (cur.toList.take (its.length * 1))[j]? = (its.map itV)[j]? := by rw [r4]
    rw [List.getElem?_take_of_lt (by omega)] at h3
    rw [h3, List.getElem?_map, List.getElem?_eq_getElem hj, List.getD_eq_getElem?_getD, List.getElem?_eq_getElem hj]; rfl
theorem step_app {ops : Array Oper} {o : Oper} {a : Act} {K : Act → World → Prop} {Q : Exit → Act → World → Prop} {E : Prop} {w W : World} {t : Go.Tm.T} {A : Option Addr} {c bx b0 : Nat} {its : List It}
    (hg : o.guard = none) (s x : Operand) (hop : o.op = Op.call { callee := Callee.builtin Builtin.append, args := #[s, x], argTypes := #[80, 80] })
    (n : Nat) (hn : its.length = n) (h : AccR w W t A c bx b0 (.cells #[] 28 (0, 0)) its) (hlo : w.heap.size ≤ b0) (hne : bx ≠ b0) (hle : n ≤ 100)
    (hs : a.eval s = .slice (some ⟨b0, 0, none⟩) 0 0) (hx : a.eval x = .slice (some ⟨W.heap.size, 0, none⟩) n n)
    (hK : ∀ A9 c9 w', LL w' A9 its → Below w.heap.size w w' → w'.heap[bx]? = some (.cells #[.int .i64 t.kind, .string t.name, .int .i64 t.num, .slice A t.kids.length c] 35 (0, 0)) → K (a.put o.dst (.slice A9 n c9)) w') :
    if Region.wanted o (yielded ops a.tmps) = true then Oper.wp Tryz.prog o a (W.alloc (.cells (its.map itV).toArray 28)) K Q else E := by
  obtain ⟨i0, hi, hi2⟩ := Option.map_eq_some_iff.1 info_sl2
  obtain ⟨hz0, hz1, hz2⟩ : i0.zero = some (.slice none 0 0) ∧ i0.size = 1 ∧ i0.bytes = 24 := by
    injection hi2 with h1 h2; injection h2 with h2 h3; exact ⟨h1, h2, h3⟩
  have hnew := World.alloc_heap_new W (.cells (its.map itV).toArray 28)
  have hl := World.lt_of_get h.keep
  have hkeep := ((later_alloc W (.cells (its.map itV).toArray 28)).block b0 hl).trans h.keep
  subst hn
  refine step_append_at hg s x 80 hop b0 28 i0 (.slice none 0 0) 1 24 Tryz.underlying80 hi hz0 hz1 hz2 rfl (by decide) _ 0 [] hs ⟨rfl, .inr ⟨b0, 0, #[], rfl, Nat.le_refl _, hkeep, Nat.le_refl _, by decide, rfl, rfl⟩⟩ ⟨W.heap.size, 0, none⟩ its.length its.length (its.map itV) hx (by simp) (fun j u hu => ?_) (fun u hu => ?_) (by unfold maxLen; omega) (by omega) (by simp; omega) (fun v' w' h1 h2 _ => ?_)
  · rw [add_off, Nat.zero_add, cell_of_row _ W.heap.size j _ _ _ hnew, List.getElem?_toArray]; exact hu
  · obtain ⟨y, _, rfl⟩ := List.mem_map.1 hu
    rfl
  · obtain ⟨A9, c9, rfl, h3, h4, h5⟩ := app_own h hlo hne h1 h2
    exact hK A9 c9 w' h3 h4 h5
theorem kid_acc {w W : World} {t u : Go.Tm.T} {A : Option Addr} {c bx b0 : Nat} {o : Obj} {its : List It} (i : Nat) (hi : i < t.kids.length) (hu : t.kids.getD i default = u) (hr : Rt u) (hz : u.size ≤ 10000) (IH : TokR u) (h : AccR w W t A c bx b0 o its) :
    Calls Tryz.prog 39 #[tmV t A c, .int .i64 i] W fun e w' => ∃ b o9 d, e = .returned (.slice (some ⟨b, o9, none⟩) (kidT u).length d) ∧ Hid (AccR w w' t A c bx b0 o (its ++ [(b, o9, d, kidT u)])) :=
  (kid_anyR t u i hi hu hr hz IH A c W h.tm).mono fun e w' ⟨b, o9, d, g1, g2, g3, g4⟩ => ⟨b, o9, d, g1, h.push g4 g2 (by
    intro e9
    unfold itT at e9
    simp only at e9
    have h1 := (toks_len hr).2
    unfold kidT wrapK at e9
    split at e9
    · rw [e9] at h1; cases h1
    · cases e9) g3⟩


set_option maxRecDepth 100000 in
set_option maxHeartbeats 2000000 in
theorem tokR_1 (n : Int) (h0 : 0 ≤ n) (h1 : n ≤ 2147483647) : TokR (.node 1 ⟨#[]⟩ n []) := fun hz A c w hT => by
  have hO : AccR w ((w.alloc (.cells #[.int .i64 1, .string ⟨#[]⟩, .int .i64 n, .slice A 0 c] 35)).alloc (.cells #[] 28)) (.node 1 ⟨#[]⟩ n []) A c w.heap.size (w.heap.size + 1) (.cells #[] 28 (0, 0)) [] := by
    have hb := (later_alloc w (.cells #[.int .i64 1, .string ⟨#[]⟩, .int .i64 n, .slice A 0 c] 35)).trans ((later_alloc (w.alloc (.cells #[.int .i64 1, .string ⟨#[]⟩, .int .i64 n, .slice A 0 c] 35)) (.cells #[] 28)).mono (by simp))
    refine ⟨hb, hT.later hb, (Below.heap_alloc _ _ _ (by simp)).trans (World.alloc_heap_new w (.cells #[.int .i64 1, .string ⟨#[]⟩, .int .i64 n, .slice A 0 c] 35)), ?_, fun x hx => by cases hx⟩
    have := World.alloc_heap_new (w.alloc (.cells #[.int .i64 1, .string ⟨#[]⟩, .int .i64 n, .slice A 0 c] 35)) (.cells #[] 28)
    rwa [World.size_alloc] at this
  obtain ⟨D, hD⟩ : ∃ D, X.strOf (Lib.decDigits n.toNat) = D := ⟨_, rfl⟩
  have hDt : D.data.toList = Lib.itoa n := by rw [← hD, X.data_strOf, itoa_dec h0]
  have hk : Hid (∀ (W : World), AccR w W (.node 1 ⟨#[]⟩ n []) A c w.heap.size (w.heap.size + 1) (.cells #[] 28 (0, 0)) [] → Calls Tryz.prog 35 #[.int .i64 n] W fun e w' => e = .returned (.string D) ∧ Hid (AccR w w' (.node 1 ⟨#[]⟩ n []) A c w.heap.size (w.heap.size + 1) (.cells #[] 28 (0, 0)) []) ∧ Hid (AccR w (w'.alloc (.cells #[.int .i64 2, .string D, .int .i64 n] 40)) (.node 1 ⟨#[]⟩ n []) A c w.heap.size (w.heap.size + 1) (.cells #[] 28 (0, 0)) [(w'.heap.size, 0, 1, [dTok n])])) := fun W h => by
    have hd := X.digits_any n.toNat (by omega) W
    rw [show ((n.toNat : Nat) : Int) = n by omega, hD] at hd
    refine hd.mono fun e w' ⟨g1, g2⟩ => ⟨g1, h.later g2, ?_⟩
    have hnew := World.alloc_heap_new w' (.cells #[.int .i64 2, .string D, .int .i64 n] 40)
    have ht := toks_one hnew
    rw [hDt] at ht
    exact (h.later g2).push (its := []) (x := (w'.heap.size, 0, 1, [dTok n])) (later_alloc _ _) ht (by simp [itT]) (Nat.le_refl _)
  have hj : Hid (∀ (W : World) (its : List It) (A9 : Option Addr) (c9 n9 : Nat), LL W A9 its → (∀ x ∈ its, itT x ≠ []) → its.flatMap itT = [dTok n] → its.length = n9 → n9 ≤ 100 → w.heap.size ≤ W.heap.size → Below w.heap.size w W → Calls Tryz.prog 40 #[.slice A9 n9 c9] W fun e w' => ∃ b o9 d, e = .returned (.slice (some ⟨b, o9, none⟩) 1 d) ∧ itOk w' (b, o9, d, [dTok n]) ∧ w.heap.size ≤ b ∧ Below w.heap.size w w') := fun W its A9 c9 n9 h1 h2 h3 h4 h5 h6 h7 => by
    subst h4
    refine (join_any its A9 c9 W h1 h2 (by rw [h3]; exact Nat.le_of_ble_eq_true rfl) (by omega)).mono fun e w' ⟨B, d, g1, g2, g3, g4⟩ => ?_
    rw [h3] at g1 g2
    obtain ⟨b, o9, rfl, _⟩ := g2 (by simp)
    exact ⟨b, o9, d, g1, g2, Nat.le_trans h6 (g3 b o9 rfl), h7.trans (g4.mono h6)⟩
  rw [toks_1]
  show Calls Tryz.prog 19 #[.agg #[.int .i64 1, .string ⟨#[]⟩, .int .i64 n, .slice A 0 c]] w _
  have q0 : ((w.alloc (.cells #[.int .i64 1, .string ⟨#[]⟩, .int .i64 n, .slice A 0 c] 35)).alloc (.cells #[] 28)).cell? ⟨w.heap.size, 0, none⟩ = some (.int .i64 1) := cell_of_row _ w.heap.size 0 _ _ _ hO.box
  have q2 : ((w.alloc (.cells #[.int .i64 1, .string ⟨#[]⟩, .int .i64 n, .slice A 0 c] 35)).alloc (.cells #[] 28)).cell? ⟨w.heap.size, 2, none⟩ = some (.int .i64 n) := cell_of_row _ w.heap.size 2 _ _ _ hO.box
  replace hO := Lib.hid (hO.later (Below.refl _ _).drew)
  clear hT hz hDt
  replace hD := Lib.hid hD
  go_enter Tryz.func19, Tryz.ntmps19
  go_wp2_with fail
  go_region_held3 (fun w' => w'.cell? ⟨w.heap.size, 2, none⟩ = some (.int .i64 n)) (first | exact q2 | exact (hO.out.boxA _).2.2.1 | exact (hN.out.boxA _).2.2.1 | exact cell_of_row _ w.heap.size 2 _ _ _ hN.out.box) (first | (refine step_app rfl (.tmp 9) (.tmp 17) rfl 1 rfl hN.out (Nat.le_succ _) (by omega) (by decide) (by simp [Act.eval]) (by simp [Act.eval]) ?_; intro A8 c8 w9 hll hbl hbx; have hJ := Lib.hid (hj.out w9 _ A8 c8 1 hll (fun x hx => (hN.out.ok x hx).2.2) rfl rfl (by decide) hbl.size hbl); clear hO hN q2 hll hbl; have q2 : w9.cell? ⟨w.heap.size, 2, none⟩ = some (.int .i64 n) := cell_of_row w9 w.heap.size 2 _ _ _ hbx; clear hbx) | (go_at_call 35; have hP := hO; clear hO q2; refine (hk.out _ hP.out).mono ?_; clear hP; rintro e w9 ⟨rfl, hO, hN⟩; have q2 : w9.cell? ⟨w.heap.size, 2, none⟩ = some (.int .i64 n) := cell_of_row w9 w.heap.size 2 _ _ _ hO.out.box))
  go_wp2_with fail
  refine hJ.out.mono ?_
  rintro e w8 ⟨b8, o8, d8, rfl, h1, h2, h3⟩
  have hfin := Lib.hid (And.intro h1 (And.intro h2 h3))
  clear h1 h2 h3 hJ
  go_wp2_with fail
  go_ret
  exact ⟨_, _, _, rfl, hfin.out.1, hfin.out.2.1, hfin.out.2.2⟩

set_option maxRecDepth 100000 in
set_option maxHeartbeats 2000000 in
theorem tokR_2 (s : ByteArray) : TokR (.node 2 s 0 []) := fun hz A c w hT => by
  have hO : AccR w ((w.alloc (.cells #[.int .i64 2, .string s, .int .i64 0, .slice A 0 c] 35)).alloc (.cells #[] 28)) (.node 2 s 0 []) A c w.heap.size (w.heap.size + 1) (.cells #[] 28 (0, 0)) [] := by
    have hb := (later_alloc w (.cells #[.int .i64 2, .string s, .int .i64 0, .slice A 0 c] 35)).trans ((later_alloc (w.alloc (.cells #[.int .i64 2, .string s, .int .i64 0, .slice A 0 c] 35)) (.cells #[] 28)).mono (by simp))
    refine ⟨hb, hT.later hb, (Below.heap_alloc _ _ _ (by simp)).trans (World.alloc_heap_new w (.cells #[.int .i64 2, .string s, .int .i64 0, .slice A 0 c] 35)), ?_, fun x hx => by cases hx⟩
    have := World.alloc_heap_new (w.alloc (.cells #[.int .i64 2, .string s, .int .i64 0, .slice A 0 c] 35)) (.cells #[] 28)
    rwa [World.size_alloc] at this
  rw [toks_2]
  show Calls Tryz.prog 19 #[.agg #[.int .i64 2, .string s, .int .i64 0, .slice A 0 c]] w _
  have kn := Lib.hid (name_acc s hO)
  clear hT hz hO
  obtain ⟨i0, hi, hi2⟩ := Option.map_eq_some_iff.1 info_sl2
  obtain ⟨hz0, hz1, hz2⟩ : i0.zero = some (.slice none 0 0) ∧ i0.size = 1 ∧ i0.bytes = 24 := by
    injection hi2 with h1 h2; injection h2 with h2 h3; exact ⟨h1, h2, h3⟩
  replace hi := Lib.hid hi
  replace hz0 := Lib.hid hz0
  replace hz1 := Lib.hid hz1
  replace hz2 := Lib.hid hz2
  clear hi2
  go_enter Tryz.func19, Tryz.ntmps19
  go_wp2_with fail
  refine kn.out.mono ?_
  rintro e w9 ⟨g9, rfl, hN⟩
  have hl9 := World.lt_of_get hN.out.keep
  have hk9 := ((later_alloc w9 (.cells #[.slice (some ⟨g9, 0, none⟩) 1 1] 28)).block (w.heap.size + 1) hl9).trans hN.out.keep
  have hn9 := World.alloc_heap_new w9 (.cells #[.slice (some ⟨g9, 0, none⟩) 1 1] 28)
  have hc9 : (w9.alloc (.cells #[.slice (some ⟨g9, 0, none⟩) 1 1] 28)).cell? ⟨w9.heap.size, 0, none⟩ = some (.slice (some ⟨g9, 0, none⟩) 1 1) := cell_of_row _ w9.heap.size 0 _ _ _ hn9
  replace hk9 := Lib.hid hk9
  replace hn9 := Lib.hid hn9
  clear kn
  go_wp2_with (at_builtin; refine wpList_append_own _ rfl _ _ 80 rfl (w.heap.size + 1) 28 i0 (.slice none 0 0) 1 24 Tryz.underlying80 hi.out hz0.out hz1.out hz2.out rfl (by decide) _ 0 [] rfl ?c0 ⟨w9.heap.size, 0, none⟩ 1 1 [.slice (some ⟨g9, 0, none⟩) 1 1] rfl rfl ?c1 ?c2 ?c3 ?c4 ?c5 ?_)
  case c0 => exact ⟨rfl, .inr ⟨w.heap.size + 1, 0, #[], rfl, Nat.le_refl _, hk9.out, Nat.le_refl _, by decide, rfl, rfl⟩⟩
  case c1 =>
    intro j u hj
    match j, hj with
    | 0, hj => cases hj; exact hc9
    | j + 1, hj => simp at hj
  case c2 =>
    intro u hu
    obtain rfl := List.mem_singleton.1 hu
    rfl
  case c3 => decide
  case c4 => decide
  case c5 => simp; omega
  · intro v8 w8 hown hgr _
    obtain ⟨A8, c8, rfl, hll, hbl, _⟩ := app_own hN.out (Nat.le_succ _) (by omega) hown hgr
    have hj := join_any [(g9, 0, 1, [nTok s.data.toList])] A8 c8 w8 hll (fun x hx => by obtain rfl := List.mem_singleton.1 hx; simp [itT]) (Nat.le_of_ble_eq_true rfl) (Nat.le_of_ble_eq_true rfl)
    rw [show ([(g9, 0, 1, [nTok s.data.toList])] : List It).flatMap itT = [nTok s.data.toList] from rfl] at hj
    have hJ := Lib.hid hj
    have hB := Lib.hid hbl
    clear hown hgr hll hbl hj hc9
    go_wp2_with fail
    refine hJ.out.mono ?_
    rintro e w7 ⟨B, d, rfl, h2, h3, h4⟩
    obtain ⟨b7, o7, rfl, h5⟩ : ∃ b o, B = some ⟨b, o, none⟩ ∧ True := by
      obtain ⟨b, o, h, _⟩ := h2 (by simp)
      exact ⟨b, o, h, trivial⟩
    have hfin := Lib.hid (And.intro h2 (And.intro (Nat.le_trans hB.out.size (h3 b7 o7 rfl)) (hB.out.trans (h4.mono hB.out.size))))
    clear h2 h3 h4 h5 hJ
    go_wp2_with fail
    go_ret
    exact ⟨_, _, _, rfl, hfin.out.1, hfin.out.2.1, hfin.out.2.2⟩


set_option maxRecDepth 100000 in
set_option maxHeartbeats 2000000 in
theorem tokR_3 (s : ByteArray) (a : Go.Tm.T) (hs : wordB s = true) (ha : Rt a) (Ia : TokR a) : TokR (.node 3 s 0 [a] : Go.Tm.T) := fun hz A c w hT => by
  have hR : Rt (.node 3 s 0 [a] : Go.Tm.T) := Rt.fn s a hs ha
  have hlen : (toksT (.node 3 s 0 [a] : Go.Tm.T)).length ≤ 65536 := by have := (toks_len hR).1; omega
  have hzs : a.size ≤ 10000 := by simp only [T.size, sizes] at hz; omega
  have hO : AccR w ((w.alloc (.cells #[.int .i64 3, .string s, .int .i64 0, .slice A 1 c] 35)).alloc (.cells #[] 28)) (.node 3 s 0 [a] : Go.Tm.T) A c w.heap.size (w.heap.size + 1) (.cells #[] 28 (0, 0)) [] := by
    have hb := (later_alloc w (.cells #[.int .i64 3, .string s, .int .i64 0, .slice A 1 c] 35)).trans ((later_alloc (w.alloc (.cells #[.int .i64 3, .string s, .int .i64 0, .slice A 1 c] 35)) (.cells #[] 28)).mono (by simp))
    refine ⟨hb, hT.later hb, (Below.heap_alloc _ _ _ (by simp)).trans (World.alloc_heap_new w (.cells #[.int .i64 3, .string s, .int .i64 0, .slice A 1 c] 35)), ?_, fun x hx => by cases hx⟩
    have := World.alloc_heap_new (w.alloc (.cells #[.int .i64 3, .string s, .int .i64 0, .slice A 1 c] 35)) (.cells #[] 28)
    rwa [World.size_alloc] at this
  have e9 : Hid (∀ (x1 x2 x3 x4 y4 z4 : Nat), List.flatMap itT ([] ++ [((x1, 0, 1, [kTok (⟨#[102, 117, 110]⟩ : ByteArray).data.toList]) : It)] ++ [((x2, 0, 1, [nTok s.data.toList]) : It)] ++ [((x3, 0, 1, [mTok (⟨#[61, 62]⟩ : ByteArray).data.toList]) : It)] ++ [((x4, y4, z4, kidT a) : It)]) = toksT (.node 3 s 0 [a] : Go.Tm.T)) := fun _ _ _ _ _ _ => by
    rw [toks_3]; simp [itT]
  obtain ⟨ts, hts⟩ : ∃ l, toksT (.node 3 s 0 [a] : Go.Tm.T) = l := ⟨_, rfl⟩
  rw [hts] at e9 hlen ⊢
  replace hts := Lib.hid hts
  have hk : Hid (∀ (W : World) (its : List It) (v : Value) (u : Go.Tm.T), AccR w W (.node 3 s 0 [a] : Go.Tm.T) A c w.heap.size (w.heap.size + 1) (.cells #[] 28 (0, 0)) its → (v = .int .i64 0 ∧ u = a) → Calls Tryz.prog 39 #[.agg #[.int .i64 3, .string s, .int .i64 0, .slice A 1 c], v] W fun e w' => ∃ bb o9 d, e = .returned (.slice (some ⟨bb, o9, none⟩) (kidT u).length d) ∧ Hid (AccR w w' (.node 3 s 0 [a] : Go.Tm.T) A c w.heap.size (w.heap.size + 1) (.cells #[] 28 (0, 0)) (its ++ [(bb, o9, d, kidT u)]))) := fun W its v u h hv => by
    obtain ⟨rfl, rfl⟩ := hv
    exact kid_acc 0 (by show _ < 1; decide) rfl ha hzs Ia h
  have hj : Hid (∀ (W : World) (its : List It) (A9 : Option Addr) (c9 n : Nat), LL W A9 its → (∀ x ∈ its, itT x ≠ []) → its.flatMap itT = ts → its.length = n → n ≤ 100 → w.heap.size ≤ W.heap.size → Below w.heap.size w W → Calls Tryz.prog 40 #[.slice A9 n c9] W fun e w' => ∃ b o9 d, e = .returned (.slice (some ⟨b, o9, none⟩) ts.length d) ∧ itOk w' (b, o9, d, ts) ∧ w.heap.size ≤ b ∧ Below w.heap.size w w') := fun W its A9 c9 n h1 h2 h3 h4 h5 h6 h7 => by
    subst h4
    have hne : ts ≠ [] := by have h8 := (toks_len hR).2; rw [hts.out] at h8; intro e; rw [e] at h8; cases h8
    refine (join_any its A9 c9 W h1 h2 (by rw [h3]; exact hlen) (by omega)).mono fun e w' ⟨B, d, g1, g2, g3, g4⟩ => ?_
    rw [h3] at g1 g2
    obtain ⟨b, o9, rfl, _⟩ := g2 hne
    exact ⟨b, o9, d, g1, g2, Nat.le_trans h6 (g3 b o9 rfl), h7.trans (g4.mono h6)⟩
  show Calls Tryz.prog 19 #[.agg #[.int .i64 3, .string s, .int .i64 0, .slice A 1 c]] w _
  have q0 : ((w.alloc (.cells #[.int .i64 3, .string s, .int .i64 0, .slice A 1 c] 35)).alloc (.cells #[] 28)).cell? ⟨w.heap.size, 0, none⟩ = some (.int .i64 3) := cell_of_row _ w.heap.size 0 _ _ _ hO.box
  have q1 : ((w.alloc (.cells #[.int .i64 3, .string s, .int .i64 0, .slice A 1 c] 35)).alloc (.cells #[] 28)).cell? ⟨w.heap.size, 1, none⟩ = some (.string s) := cell_of_row _ w.heap.size 1 _ _ _ hO.box
  have q2 : ((w.alloc (.cells #[.int .i64 3, .string s, .int .i64 0, .slice A 1 c] 35)).alloc (.cells #[] 28)).cell? ⟨w.heap.size, 2, none⟩ = some (.int .i64 0) := cell_of_row _ w.heap.size 2 _ _ _ hO.box
  have q3 : ((w.alloc (.cells #[.int .i64 3, .string s, .int .i64 0, .slice A 1 c] 35)).alloc (.cells #[] 28)).cell? ⟨w.heap.size, 3, none⟩ = some (.slice A 1 c) := cell_of_row _ w.heap.size 3 _ _ _ hO.box
  replace hO := Lib.hid (hO.later (Below.refl _ _).drew)
  clear hT hz hlen
  go_enter Tryz.func19, Tryz.ntmps19
  go_wp2_with fail
  go_region_held3 (fun w' => w'.cell? ⟨w.heap.size, 0, none⟩ = some (.int .i64 3) ∧ w'.cell? ⟨w.heap.size, 1, none⟩ = some (.string s) ∧ w'.cell? ⟨w.heap.size, 2, none⟩ = some (.int .i64 0) ∧ w'.cell? ⟨w.heap.size, 3, none⟩ = some (.slice A 1 c)) (first | exact ⟨q0, q1, q2, q3⟩ | exact hO.out.boxA _) (first | (refine step_app rfl (.tmp 29) (.tmp 37) rfl 4 rfl hO.out (Nat.le_succ _) (by omega) (by decide) (by simp [Act.eval]) (by simp [Act.eval]) ?_; intro A8 c8 w9 hll hbl hbx; have hJ := Lib.hid (hj.out w9 _ A8 c8 4 hll (fun x hx => (hO.out.ok x hx).2.2) (e9.out _ _ _ _ _ _) rfl (by decide) hbl.size hbl); clear hO q0 q1 q2 q3 hll hbl; have q0 : w9.cell? ⟨w.heap.size, 0, none⟩ = some (.int .i64 3) := cell_of_row w9 w.heap.size 0 _ _ _ hbx; have q1 : w9.cell? ⟨w.heap.size, 1, none⟩ = some (.string s) := cell_of_row w9 w.heap.size 1 _ _ _ hbx; have q2 : w9.cell? ⟨w.heap.size, 2, none⟩ = some (.int .i64 0) := cell_of_row w9 w.heap.size 2 _ _ _ hbx; have q3 : w9.cell? ⟨w.heap.size, 3, none⟩ = some (.slice A 1 c) := cell_of_row w9 w.heap.size 3 _ _ _ hbx; clear hbx) | (go_at_call 37; have hP := hO; clear hO q0 q1 q2 q3; refine (key_acc _ hP.out).mono ?_; clear hP; rintro e w9 ⟨g9, rfl, hO⟩; have q0 : w9.cell? ⟨w.heap.size, 0, none⟩ = some (.int .i64 3) := cell_of_row w9 w.heap.size 0 _ _ _ hO.out.box; have q1 : w9.cell? ⟨w.heap.size, 1, none⟩ = some (.string s) := cell_of_row w9 w.heap.size 1 _ _ _ hO.out.box; have q2 : w9.cell? ⟨w.heap.size, 2, none⟩ = some (.int .i64 0) := cell_of_row w9 w.heap.size 2 _ _ _ hO.out.box; have q3 : w9.cell? ⟨w.heap.size, 3, none⟩ = some (.slice A 1 c) := cell_of_row w9 w.heap.size 3 _ _ _ hO.out.box) | (go_at_call 36; have hP := hO; clear hO q0 q1 q2 q3; refine (name_acc _ hP.out).mono ?_; clear hP; rintro e w9 ⟨g9, rfl, hO⟩; have q0 : w9.cell? ⟨w.heap.size, 0, none⟩ = some (.int .i64 3) := cell_of_row w9 w.heap.size 0 _ _ _ hO.out.box; have q1 : w9.cell? ⟨w.heap.size, 1, none⟩ = some (.string s) := cell_of_row w9 w.heap.size 1 _ _ _ hO.out.box; have q2 : w9.cell? ⟨w.heap.size, 2, none⟩ = some (.int .i64 0) := cell_of_row w9 w.heap.size 2 _ _ _ hO.out.box; have q3 : w9.cell? ⟨w.heap.size, 3, none⟩ = some (.slice A 1 c) := cell_of_row w9 w.heap.size 3 _ _ _ hO.out.box) | (go_at_call 38; have hP := hO; clear hO q0 q1 q2 q3; refine (mark_acc _ hP.out).mono ?_; clear hP; rintro e w9 ⟨g9, rfl, hO⟩; have q0 : w9.cell? ⟨w.heap.size, 0, none⟩ = some (.int .i64 3) := cell_of_row w9 w.heap.size 0 _ _ _ hO.out.box; have q1 : w9.cell? ⟨w.heap.size, 1, none⟩ = some (.string s) := cell_of_row w9 w.heap.size 1 _ _ _ hO.out.box; have q2 : w9.cell? ⟨w.heap.size, 2, none⟩ = some (.int .i64 0) := cell_of_row w9 w.heap.size 2 _ _ _ hO.out.box; have q3 : w9.cell? ⟨w.heap.size, 3, none⟩ = some (.slice A 1 c) := cell_of_row w9 w.heap.size 3 _ _ _ hO.out.box) | (go_at_call 39; have hP := hO; clear hO q0 q1 q2 q3; refine (hk.out _ _ _ _ hP.out (by first | exact ⟨rfl, rfl⟩)).mono ?_; clear hP; rintro e w9 ⟨b9, o9, d9, rfl, hO⟩; have q0 : w9.cell? ⟨w.heap.size, 0, none⟩ = some (.int .i64 3) := cell_of_row w9 w.heap.size 0 _ _ _ hO.out.box; have q1 : w9.cell? ⟨w.heap.size, 1, none⟩ = some (.string s) := cell_of_row w9 w.heap.size 1 _ _ _ hO.out.box; have q2 : w9.cell? ⟨w.heap.size, 2, none⟩ = some (.int .i64 0) := cell_of_row w9 w.heap.size 2 _ _ _ hO.out.box; have q3 : w9.cell? ⟨w.heap.size, 3, none⟩ = some (.slice A 1 c) := cell_of_row w9 w.heap.size 3 _ _ _ hO.out.box))
  go_wp2_with fail
  refine hJ.out.mono ?_
  rintro e w8 ⟨b8, o8, d8, rfl, h1, h2, h3⟩
  have hfin := Lib.hid (And.intro h1 (And.intro h2 h3))
  clear h1 h2 h3 hJ
  go_wp2_with fail
  go_ret
  exact ⟨_, _, _, rfl, hfin.out.1, hfin.out.2.1, hfin.out.2.2⟩

set_option maxRecDepth 100000 in
set_option maxHeartbeats 2000000 in
theorem tokR_4 (a b : Go.Tm.T) (ha : Rt a) (Ia : TokR a) (hb : Rt b) (Ib : TokR b) : TokR (.node 4 (⟨#[]⟩ : ByteArray) 0 [a, b] : Go.Tm.T) := fun hz A c w hT => by
  have hR : Rt (.node 4 (⟨#[]⟩ : ByteArray) 0 [a, b] : Go.Tm.T) := Rt.app a b ha hb
  have hlen : (toksT (.node 4 (⟨#[]⟩ : ByteArray) 0 [a, b] : Go.Tm.T)).length ≤ 65536 := by have := (toks_len hR).1; omega
  have hzs : a.size ≤ 10000 ∧ b.size ≤ 10000 := by simp only [T.size, sizes] at hz; omega
  have hO : AccR w ((w.alloc (.cells #[.int .i64 4, .string ⟨#[]⟩, .int .i64 0, .slice A 2 c] 35)).alloc (.cells #[] 28)) (.node 4 (⟨#[]⟩ : ByteArray) 0 [a, b] : Go.Tm.T) A c w.heap.size (w.heap.size + 1) (.cells #[] 28 (0, 0)) [] := by
    have hb := (later_alloc w (.cells #[.int .i64 4, .string ⟨#[]⟩, .int .i64 0, .slice A 2 c] 35)).trans ((later_alloc (w.alloc (.cells #[.int .i64 4, .string ⟨#[]⟩, .int .i64 0, .slice A 2 c] 35)) (.cells #[] 28)).mono (by simp))
    refine ⟨hb, hT.later hb, (Below.heap_alloc _ _ _ (by simp)).trans (World.alloc_heap_new w (.cells #[.int .i64 4, .string ⟨#[]⟩, .int .i64 0, .slice A 2 c] 35)), ?_, fun x hx => by cases hx⟩
    have := World.alloc_heap_new (w.alloc (.cells #[.int .i64 4, .string ⟨#[]⟩, .int .i64 0, .slice A 2 c] 35)) (.cells #[] 28)
    rwa [World.size_alloc] at this
  have e9 : Hid (∀ (x1 y1 z1 x2 y2 z2 : Nat), List.flatMap itT ([] ++ [((x1, y1, z1, kidT a) : It)] ++ [((x2, y2, z2, kidT b) : It)]) = toksT (.node 4 (⟨#[]⟩ : ByteArray) 0 [a, b] : Go.Tm.T)) := fun _ _ _ _ _ _ => by
    rw [toks_4]; simp [itT]
  obtain ⟨ts, hts⟩ : ∃ l, toksT (.node 4 (⟨#[]⟩ : ByteArray) 0 [a, b] : Go.Tm.T) = l := ⟨_, rfl⟩
  rw [hts] at e9 hlen ⊢
  replace hts := Lib.hid hts
  have hk : Hid (∀ (W : World) (its : List It) (v : Value) (u : Go.Tm.T), AccR w W (.node 4 (⟨#[]⟩ : ByteArray) 0 [a, b] : Go.Tm.T) A c w.heap.size (w.heap.size + 1) (.cells #[] 28 (0, 0)) its → (v = .int .i64 0 ∧ u = a) ∨ (v = .int .i64 1 ∧ u = b) → Calls Tryz.prog 39 #[.agg #[.int .i64 4, .string ⟨#[]⟩, .int .i64 0, .slice A 2 c], v] W fun e w' => ∃ bb o9 d, e = .returned (.slice (some ⟨bb, o9, none⟩) (kidT u).length d) ∧ Hid (AccR w w' (.node 4 (⟨#[]⟩ : ByteArray) 0 [a, b] : Go.Tm.T) A c w.heap.size (w.heap.size + 1) (.cells #[] 28 (0, 0)) (its ++ [(bb, o9, d, kidT u)]))) := fun W its v u h hv => by
    rcases hv with ⟨rfl, rfl⟩ | ⟨rfl, rfl⟩
    · exact kid_acc 0 (by show _ < 2; decide) rfl ha hzs.1 Ia h
    · exact kid_acc 1 (by show _ < 2; decide) rfl hb hzs.2 Ib h
  have hj : Hid (∀ (W : World) (its : List It) (A9 : Option Addr) (c9 n : Nat), LL W A9 its → (∀ x ∈ its, itT x ≠ []) → its.flatMap itT = ts → its.length = n → n ≤ 100 → w.heap.size ≤ W.heap.size → Below w.heap.size w W → Calls Tryz.prog 40 #[.slice A9 n c9] W fun e w' => ∃ b o9 d, e = .returned (.slice (some ⟨b, o9, none⟩) ts.length d) ∧ itOk w' (b, o9, d, ts) ∧ w.heap.size ≤ b ∧ Below w.heap.size w w') := fun W its A9 c9 n h1 h2 h3 h4 h5 h6 h7 => by
    subst h4
    have hne : ts ≠ [] := by have h8 := (toks_len hR).2; rw [hts.out] at h8; intro e; rw [e] at h8; cases h8
    refine (join_any its A9 c9 W h1 h2 (by rw [h3]; exact hlen) (by omega)).mono fun e w' ⟨B, d, g1, g2, g3, g4⟩ => ?_
    rw [h3] at g1 g2
    obtain ⟨b, o9, rfl, _⟩ := g2 hne
    exact ⟨b, o9, d, g1, g2, Nat.le_trans h6 (g3 b o9 rfl), h7.trans (g4.mono h6)⟩
  show Calls Tryz.prog 19 #[.agg #[.int .i64 4, .string ⟨#[]⟩, .int .i64 0, .slice A 2 c]] w _
  have q0 : ((w.alloc (.cells #[.int .i64 4, .string ⟨#[]⟩, .int .i64 0, .slice A 2 c] 35)).alloc (.cells #[] 28)).cell? ⟨w.heap.size, 0, none⟩ = some (.int .i64 4) := cell_of_row _ w.heap.size 0 _ _ _ hO.box
  have q1 : ((w.alloc (.cells #[.int .i64 4, .string ⟨#[]⟩, .int .i64 0, .slice A 2 c] 35)).alloc (.cells #[] 28)).cell? ⟨w.heap.size, 1, none⟩ = some (.string ⟨#[]⟩) := cell_of_row _ w.heap.size 1 _ _ _ hO.box
  have q2 : ((w.alloc (.cells #[.int .i64 4, .string ⟨#[]⟩, .int .i64 0, .slice A 2 c] 35)).alloc (.cells #[] 28)).cell? ⟨w.heap.size, 2, none⟩ = some (.int .i64 0) := cell_of_row _ w.heap.size 2 _ _ _ hO.box
  have q3 : ((w.alloc (.cells #[.int .i64 4, .string ⟨#[]⟩, .int .i64 0, .slice A 2 c] 35)).alloc (.cells #[] 28)).cell? ⟨w.heap.size, 3, none⟩ = some (.slice A 2 c) := cell_of_row _ w.heap.size 3 _ _ _ hO.box
  replace hO := Lib.hid (hO.later (Below.refl _ _).drew)
  clear hT hz hlen
  go_enter Tryz.func19, Tryz.ntmps19
  go_wp2_with fail
  go_region_held3 (fun w' => w'.cell? ⟨w.heap.size, 0, none⟩ = some (.int .i64 4) ∧ w'.cell? ⟨w.heap.size, 1, none⟩ = some (.string ⟨#[]⟩) ∧ w'.cell? ⟨w.heap.size, 2, none⟩ = some (.int .i64 0) ∧ w'.cell? ⟨w.heap.size, 3, none⟩ = some (.slice A 2 c)) (first | exact ⟨q0, q1, q2, q3⟩ | exact hO.out.boxA _) (first | (refine step_app rfl (.tmp 41) (.tmp 46) rfl 2 rfl hO.out (Nat.le_succ _) (by omega) (by decide) (by simp [Act.eval]) (by simp [Act.eval]) ?_; intro A8 c8 w9 hll hbl hbx; have hJ := Lib.hid (hj.out w9 _ A8 c8 2 hll (fun x hx => (hO.out.ok x hx).2.2) (e9.out _ _ _ _ _ _) rfl (by decide) hbl.size hbl); clear hO q0 q1 q2 q3 hll hbl; have q0 : w9.cell? ⟨w.heap.size, 0, none⟩ = some (.int .i64 4) := cell_of_row w9 w.heap.size 0 _ _ _ hbx; have q1 : w9.cell? ⟨w.heap.size, 1, none⟩ = some (.string ⟨#[]⟩) := cell_of_row w9 w.heap.size 1 _ _ _ hbx; have q2 : w9.cell? ⟨w.heap.size, 2, none⟩ = some (.int .i64 0) := cell_of_row w9 w.heap.size 2 _ _ _ hbx; have q3 : w9.cell? ⟨w.heap.size, 3, none⟩ = some (.slice A 2 c) := cell_of_row w9 w.heap.size 3 _ _ _ hbx; clear hbx) | (go_at_call 37; have hP := hO; clear hO q0 q1 q2 q3; refine (key_acc _ hP.out).mono ?_; clear hP; rintro e w9 ⟨g9, rfl, hO⟩; have q0 : w9.cell? ⟨w.heap.size, 0, none⟩ = some (.int .i64 4) := cell_of_row w9 w.heap.size 0 _ _ _ hO.out.box; have q1 : w9.cell? ⟨w.heap.size, 1, none⟩ = some (.string ⟨#[]⟩) := cell_of_row w9 w.heap.size 1 _ _ _ hO.out.box; have q2 : w9.cell? ⟨w.heap.size, 2, none⟩ = some (.int .i64 0) := cell_of_row w9 w.heap.size 2 _ _ _ hO.out.box; have q3 : w9.cell? ⟨w.heap.size, 3, none⟩ = some (.slice A 2 c) := cell_of_row w9 w.heap.size 3 _ _ _ hO.out.box) | (go_at_call 36; have hP := hO; clear hO q0 q1 q2 q3; refine (name_acc _ hP.out).mono ?_; clear hP; rintro e w9 ⟨g9, rfl, hO⟩; have q0 : w9.cell? ⟨w.heap.size, 0, none⟩ = some (.int .i64 4) := cell_of_row w9 w.heap.size 0 _ _ _ hO.out.box; have q1 : w9.cell? ⟨w.heap.size, 1, none⟩ = some (.string ⟨#[]⟩) := cell_of_row w9 w.heap.size 1 _ _ _ hO.out.box; have q2 : w9.cell? ⟨w.heap.size, 2, none⟩ = some (.int .i64 0) := cell_of_row w9 w.heap.size 2 _ _ _ hO.out.box; have q3 : w9.cell? ⟨w.heap.size, 3, none⟩ = some (.slice A 2 c) := cell_of_row w9 w.heap.size 3 _ _ _ hO.out.box) | (go_at_call 38; have hP := hO; clear hO q0 q1 q2 q3; refine (mark_acc _ hP.out).mono ?_; clear hP; rintro e w9 ⟨g9, rfl, hO⟩; have q0 : w9.cell? ⟨w.heap.size, 0, none⟩ = some (.int .i64 4) := cell_of_row w9 w.heap.size 0 _ _ _ hO.out.box; have q1 : w9.cell? ⟨w.heap.size, 1, none⟩ = some (.string ⟨#[]⟩) := cell_of_row w9 w.heap.size 1 _ _ _ hO.out.box; have q2 : w9.cell? ⟨w.heap.size, 2, none⟩ = some (.int .i64 0) := cell_of_row w9 w.heap.size 2 _ _ _ hO.out.box; have q3 : w9.cell? ⟨w.heap.size, 3, none⟩ = some (.slice A 2 c) := cell_of_row w9 w.heap.size 3 _ _ _ hO.out.box) | (go_at_call 39; have hP := hO; clear hO q0 q1 q2 q3; refine (hk.out _ _ _ _ hP.out (by first | exact .inl ⟨rfl, rfl⟩ | exact .inr ⟨rfl, rfl⟩)).mono ?_; clear hP; rintro e w9 ⟨b9, o9, d9, rfl, hO⟩; have q0 : w9.cell? ⟨w.heap.size, 0, none⟩ = some (.int .i64 4) := cell_of_row w9 w.heap.size 0 _ _ _ hO.out.box; have q1 : w9.cell? ⟨w.heap.size, 1, none⟩ = some (.string ⟨#[]⟩) := cell_of_row w9 w.heap.size 1 _ _ _ hO.out.box; have q2 : w9.cell? ⟨w.heap.size, 2, none⟩ = some (.int .i64 0) := cell_of_row w9 w.heap.size 2 _ _ _ hO.out.box; have q3 : w9.cell? ⟨w.heap.size, 3, none⟩ = some (.slice A 2 c) := cell_of_row w9 w.heap.size 3 _ _ _ hO.out.box))
  go_wp2_with fail
  refine hJ.out.mono ?_
  rintro e w8 ⟨b8, o8, d8, rfl, h1, h2, h3⟩
  have hfin := Lib.hid (And.intro h1 (And.intro h2 h3))
  clear h1 h2 h3 hJ
  go_wp2_with fail
  go_ret
  exact ⟨_, _, _, rfl, hfin.out.1, hfin.out.2.1, hfin.out.2.2⟩

set_option maxRecDepth 100000 in
set_option maxHeartbeats 2000000 in
theorem tokR_5 (s : ByteArray) (a b : Go.Tm.T) (hs : wordB s = true) (ha : Rt a) (Ia : TokR a) (hb : Rt b) (Ib : TokR b) : TokR (.node 5 s 0 [a, b] : Go.Tm.T) := fun hz A c w hT => by
  have hR : Rt (.node 5 s 0 [a, b] : Go.Tm.T) := Rt.lt s a b hs ha hb
  have hlen : (toksT (.node 5 s 0 [a, b] : Go.Tm.T)).length ≤ 65536 := by have := (toks_len hR).1; omega
  have hzs : a.size ≤ 10000 ∧ b.size ≤ 10000 := by simp only [T.size, sizes] at hz; omega
  have hO : AccR w ((w.alloc (.cells #[.int .i64 5, .string s, .int .i64 0, .slice A 2 c] 35)).alloc (.cells #[] 28)) (.node 5 s 0 [a, b] : Go.Tm.T) A c w.heap.size (w.heap.size + 1) (.cells #[] 28 (0, 0)) [] := by
    have hb := (later_alloc w (.cells #[.int .i64 5, .string s, .int .i64 0, .slice A 2 c] 35)).trans ((later_alloc (w.alloc (.cells #[.int .i64 5, .string s, .int .i64 0, .slice A 2 c] 35)) (.cells #[] 28)).mono (by simp))
    refine ⟨hb, hT.later hb, (Below.heap_alloc _ _ _ (by simp)).trans (World.alloc_heap_new w (.cells #[.int .i64 5, .string s, .int .i64 0, .slice A 2 c] 35)), ?_, fun x hx => by cases hx⟩
    have := World.alloc_heap_new (w.alloc (.cells #[.int .i64 5, .string s, .int .i64 0, .slice A 2 c] 35)) (.cells #[] 28)
    rwa [World.size_alloc] at this
  have e9 : Hid (∀ (x1 x2 x3 x4 y4 z4 x5 x6 y6 z6 : Nat), List.flatMap itT ([] ++ [((x1, 0, 1, [kTok (⟨#[108, 101, 116]⟩ : ByteArray).data.toList]) : It)] ++ [((x2, 0, 1, [nTok s.data.toList]) : It)] ++ [((x3, 0, 1, [mTok (⟨#[61]⟩ : ByteArray).data.toList]) : It)] ++ [((x4, y4, z4, kidT a) : It)] ++ [((x5, 0, 1, [kTok (⟨#[105, 110]⟩ : ByteArray).data.toList]) : It)] ++ [((x6, y6, z6, kidT b) : It)]) = toksT (.node 5 s 0 [a, b] : Go.Tm.T)) := fun _ _ _ _ _ _ _ _ _ _ => by
    rw [toks_5]; simp [itT]
  obtain ⟨ts, hts⟩ : ∃ l, toksT (.node 5 s 0 [a, b] : Go.Tm.T) = l := ⟨_, rfl⟩
  rw [hts] at e9 hlen ⊢
  replace hts := Lib.hid hts
  have hk : Hid (∀ (W : World) (its : List It) (v : Value) (u : Go.Tm.T), AccR w W (.node 5 s 0 [a, b] : Go.Tm.T) A c w.heap.size (w.heap.size + 1) (.cells #[] 28 (0, 0)) its → (v = .int .i64 0 ∧ u = a) ∨ (v = .int .i64 1 ∧ u = b) → Calls Tryz.prog 39 #[.agg #[.int .i64 5, .string s, .int .i64 0, .slice A 2 c], v] W fun e w' => ∃ bb o9 d, e = .returned (.slice (some ⟨bb, o9, none⟩) (kidT u).length d) ∧ Hid (AccR w w' (.node 5 s 0 [a, b] : Go.Tm.T) A c w.heap.size (w.heap.size + 1) (.cells #[] 28 (0, 0)) (its ++ [(bb, o9, d, kidT u)]))) := fun W its v u h hv => by
    rcases hv with ⟨rfl, rfl⟩ | ⟨rfl, rfl⟩
    · exact kid_acc 0 (by show _ < 2; decide) rfl ha hzs.1 Ia h
    · exact kid_acc 1 (by show _ < 2; decide) rfl hb hzs.2 Ib h
  have hj : Hid (∀ (W : World) (its : List It) (A9 : Option Addr) (c9 n : Nat), LL W A9 its → (∀ x ∈ its, itT x ≠ []) → its.flatMap itT = ts → its.length = n → n ≤ 100 → w.heap.size ≤ W.heap.size → Below w.heap.size w W → Calls Tryz.prog 40 #[.slice A9 n c9] W fun e w' => ∃ b o9 d, e = .returned (.slice (some ⟨b, o9, none⟩) ts.length d) ∧ itOk w' (b, o9, d, ts) ∧ w.heap.size ≤ b ∧ Below w.heap.size w w') := fun W its A9 c9 n h1 h2 h3 h4 h5 h6 h7 => by
    subst h4
    have hne : ts ≠ [] := by have h8 := (toks_len hR).2; rw [hts.out] at h8; intro e; rw [e] at h8; cases h8
    refine (join_any its A9 c9 W h1 h2 (by rw [h3]; exact hlen) (by omega)).mono fun e w' ⟨B, d, g1, g2, g3, g4⟩ => ?_
    rw [h3] at g1 g2
    obtain ⟨b, o9, rfl, _⟩ := g2 hne
    exact ⟨b, o9, d, g1, g2, Nat.le_trans h6 (g3 b o9 rfl), h7.trans (g4.mono h6)⟩
  show Calls Tryz.prog 19 #[.agg #[.int .i64 5, .string s, .int .i64 0, .slice A 2 c]] w _
  have q0 : ((w.alloc (.cells #[.int .i64 5, .string s, .int .i64 0, .slice A 2 c] 35)).alloc (.cells #[] 28)).cell? ⟨w.heap.size, 0, none⟩ = some (.int .i64 5) := cell_of_row _ w.heap.size 0 _ _ _ hO.box
  have q1 : ((w.alloc (.cells #[.int .i64 5, .string s, .int .i64 0, .slice A 2 c] 35)).alloc (.cells #[] 28)).cell? ⟨w.heap.size, 1, none⟩ = some (.string s) := cell_of_row _ w.heap.size 1 _ _ _ hO.box
  have q2 : ((w.alloc (.cells #[.int .i64 5, .string s, .int .i64 0, .slice A 2 c] 35)).alloc (.cells #[] 28)).cell? ⟨w.heap.size, 2, none⟩ = some (.int .i64 0) := cell_of_row _ w.heap.size 2 _ _ _ hO.box
  have q3 : ((w.alloc (.cells #[.int .i64 5, .string s, .int .i64 0, .slice A 2 c] 35)).alloc (.cells #[] 28)).cell? ⟨w.heap.size, 3, none⟩ = some (.slice A 2 c) := cell_of_row _ w.heap.size 3 _ _ _ hO.box
  replace hO := Lib.hid (hO.later (Below.refl _ _).drew)
  clear hT hz hlen
  go_enter Tryz.func19, Tryz.ntmps19
  go_wp2_with fail
  go_region_held3 (fun w' => w'.cell? ⟨w.heap.size, 0, none⟩ = some (.int .i64 5) ∧ w'.cell? ⟨w.heap.size, 1, none⟩ = some (.string s) ∧ w'.cell? ⟨w.heap.size, 2, none⟩ = some (.int .i64 0) ∧ w'.cell? ⟨w.heap.size, 3, none⟩ = some (.slice A 2 c)) (first | exact ⟨q0, q1, q2, q3⟩ | exact hO.out.boxA _) (first | (refine step_app rfl (.tmp 50) (.tmp 61) rfl 6 rfl hO.out (Nat.le_succ _) (by omega) (by decide) (by simp [Act.eval]) (by simp [Act.eval]) ?_; intro A8 c8 w9 hll hbl hbx; have hJ := Lib.hid (hj.out w9 _ A8 c8 6 hll (fun x hx => (hO.out.ok x hx).2.2) (e9.out _ _ _ _ _ _ _ _ _ _) rfl (by decide) hbl.size hbl); clear hO q0 q1 q2 q3 hll hbl; have q0 : w9.cell? ⟨w.heap.size, 0, none⟩ = some (.int .i64 5) := cell_of_row w9 w.heap.size 0 _ _ _ hbx; have q1 : w9.cell? ⟨w.heap.size, 1, none⟩ = some (.string s) := cell_of_row w9 w.heap.size 1 _ _ _ hbx; have q2 : w9.cell? ⟨w.heap.size, 2, none⟩ = some (.int .i64 0) := cell_of_row w9 w.heap.size 2 _ _ _ hbx; have q3 : w9.cell? ⟨w.heap.size, 3, none⟩ = some (.slice A 2 c) := cell_of_row w9 w.heap.size 3 _ _ _ hbx; clear hbx) | (go_at_call 37; have hP := hO; clear hO q0 q1 q2 q3; refine (key_acc _ hP.out).mono ?_; clear hP; rintro e w9 ⟨g9, rfl, hO⟩; have q0 : w9.cell? ⟨w.heap.size, 0, none⟩ = some (.int .i64 5) := cell_of_row w9 w.heap.size 0 _ _ _ hO.out.box; have q1 : w9.cell? ⟨w.heap.size, 1, none⟩ = some (.string s) := cell_of_row w9 w.heap.size 1 _ _ _ hO.out.box; have q2 : w9.cell? ⟨w.heap.size, 2, none⟩ = some (.int .i64 0) := cell_of_row w9 w.heap.size 2 _ _ _ hO.out.box; have q3 : w9.cell? ⟨w.heap.size, 3, none⟩ = some (.slice A 2 c) := cell_of_row w9 w.heap.size 3 _ _ _ hO.out.box) | (go_at_call 36; have hP := hO; clear hO q0 q1 q2 q3; refine (name_acc _ hP.out).mono ?_; clear hP; rintro e w9 ⟨g9, rfl, hO⟩; have q0 : w9.cell? ⟨w.heap.size, 0, none⟩ = some (.int .i64 5) := cell_of_row w9 w.heap.size 0 _ _ _ hO.out.box; have q1 : w9.cell? ⟨w.heap.size, 1, none⟩ = some (.string s) := cell_of_row w9 w.heap.size 1 _ _ _ hO.out.box; have q2 : w9.cell? ⟨w.heap.size, 2, none⟩ = some (.int .i64 0) := cell_of_row w9 w.heap.size 2 _ _ _ hO.out.box; have q3 : w9.cell? ⟨w.heap.size, 3, none⟩ = some (.slice A 2 c) := cell_of_row w9 w.heap.size 3 _ _ _ hO.out.box) | (go_at_call 38; have hP := hO; clear hO q0 q1 q2 q3; refine (mark_acc _ hP.out).mono ?_; clear hP; rintro e w9 ⟨g9, rfl, hO⟩; have q0 : w9.cell? ⟨w.heap.size, 0, none⟩ = some (.int .i64 5) := cell_of_row w9 w.heap.size 0 _ _ _ hO.out.box; have q1 : w9.cell? ⟨w.heap.size, 1, none⟩ = some (.string s) := cell_of_row w9 w.heap.size 1 _ _ _ hO.out.box; have q2 : w9.cell? ⟨w.heap.size, 2, none⟩ = some (.int .i64 0) := cell_of_row w9 w.heap.size 2 _ _ _ hO.out.box; have q3 : w9.cell? ⟨w.heap.size, 3, none⟩ = some (.slice A 2 c) := cell_of_row w9 w.heap.size 3 _ _ _ hO.out.box) | (go_at_call 39; have hP := hO; clear hO q0 q1 q2 q3; refine (hk.out _ _ _ _ hP.out (by first | exact .inl ⟨rfl, rfl⟩ | exact .inr ⟨rfl, rfl⟩)).mono ?_; clear hP; rintro e w9 ⟨b9, o9, d9, rfl, hO⟩; have q0 : w9.cell? ⟨w.heap.size, 0, none⟩ = some (.int .i64 5) := cell_of_row w9 w.heap.size 0 _ _ _ hO.out.box; have q1 : w9.cell? ⟨w.heap.size, 1, none⟩ = some (.string s) := cell_of_row w9 w.heap.size 1 _ _ _ hO.out.box; have q2 : w9.cell? ⟨w.heap.size, 2, none⟩ = some (.int .i64 0) := cell_of_row w9 w.heap.size 2 _ _ _ hO.out.box; have q3 : w9.cell? ⟨w.heap.size, 3, none⟩ = some (.slice A 2 c) := cell_of_row w9 w.heap.size 3 _ _ _ hO.out.box))
  go_wp2_with fail
  refine hJ.out.mono ?_
  rintro e w8 ⟨b8, o8, d8, rfl, h1, h2, h3⟩
  have hfin := Lib.hid (And.intro h1 (And.intro h2 h3))
  clear h1 h2 h3 hJ
  go_wp2_with fail
  go_ret
  exact ⟨_, _, _, rfl, hfin.out.1, hfin.out.2.1, hfin.out.2.2⟩

set_option maxRecDepth 100000 in
set_option maxHeartbeats 2000000 in
theorem tokR_6 (a b c3 : Go.Tm.T) (ha : Rt a) (Ia : TokR a) (hb : Rt b) (Ib : TokR b) (hc3 : Rt c3) (Ic3 : TokR c3) : TokR (.node 6 (⟨#[]⟩ : ByteArray) 0 [a, b, c3] : Go.Tm.T) := fun hz A c w hT => by
  have hR : Rt (.node 6 (⟨#[]⟩ : ByteArray) 0 [a, b, c3] : Go.Tm.T) := Rt.cond a b c3 ha hb hc3
  have hlen : (toksT (.node 6 (⟨#[]⟩ : ByteArray) 0 [a, b, c3] : Go.Tm.T)).length ≤ 65536 := by have := (toks_len hR).1; omega
  have hzs : a.size ≤ 10000 ∧ b.size ≤ 10000 ∧ c3.size ≤ 10000 := by simp only [T.size, sizes] at hz; omega
  have hO : AccR w ((w.alloc (.cells #[.int .i64 6, .string ⟨#[]⟩, .int .i64 0, .slice A 3 c] 35)).alloc (.cells #[] 28)) (.node 6 (⟨#[]⟩ : ByteArray) 0 [a, b, c3] : Go.Tm.T) A c w.heap.size (w.heap.size + 1) (.cells #[] 28 (0, 0)) [] := by
    have hb := (later_alloc w (.cells #[.int .i64 6, .string ⟨#[]⟩, .int .i64 0, .slice A 3 c] 35)).trans ((later_alloc (w.alloc (.cells #[.int .i64 6, .string ⟨#[]⟩, .int .i64 0, .slice A 3 c] 35)) (.cells #[] 28)).mono (by simp))
    refine ⟨hb, hT.later hb, (Below.heap_alloc _ _ _ (by simp)).trans (World.alloc_heap_new w (.cells #[.int .i64 6, .string ⟨#[]⟩, .int .i64 0, .slice A 3 c] 35)), ?_, fun x hx => by cases hx⟩
    have := World.alloc_heap_new (w.alloc (.cells #[.int .i64 6, .string ⟨#[]⟩, .int .i64 0, .slice A 3 c] 35)) (.cells #[] 28)
    rwa [World.size_alloc] at this
  have e9 : Hid (∀ (x1 x2 y2 z2 x3 x4 y4 z4 x5 x6 y6 z6 : Nat), List.flatMap itT ([] ++ [((x1, 0, 1, [kTok (⟨#[105, 102]⟩ : ByteArray).data.toList]) : It)] ++ [((x2, y2, z2, kidT a) : It)] ++ [((x3, 0, 1, [kTok (⟨#[116, 104, 101, 110]⟩ : ByteArray).data.toList]) : It)] ++ [((x4, y4, z4, kidT b) : It)] ++ [((x5, 0, 1, [kTok (⟨#[101, 108, 115, 101]⟩ : ByteArray).data.toList]) : It)] ++ [((x6, y6, z6, kidT c3) : It)]) = toksT (.node 6 (⟨#[]⟩ : ByteArray) 0 [a, b, c3] : Go.Tm.T)) := fun _ _ _ _ _ _ _ _ _ _ _ _ => by
    rw [toks_6]; simp [itT]
  obtain ⟨ts, hts⟩ : ∃ l, toksT (.node 6 (⟨#[]⟩ : ByteArray) 0 [a, b, c3] : Go.Tm.T) = l := ⟨_, rfl⟩
  rw [hts] at e9 hlen ⊢
  replace hts := Lib.hid hts
  have hk : Hid (∀ (W : World) (its : List It) (v : Value) (u : Go.Tm.T), AccR w W (.node 6 (⟨#[]⟩ : ByteArray) 0 [a, b, c3] : Go.Tm.T) A c w.heap.size (w.heap.size + 1) (.cells #[] 28 (0, 0)) its → (v = .int .i64 0 ∧ u = a) ∨ (v = .int .i64 1 ∧ u = b) ∨ (v = .int .i64 2 ∧ u = c3) → Calls Tryz.prog 39 #[.agg #[.int .i64 6, .string ⟨#[]⟩, .int .i64 0, .slice A 3 c], v] W fun e w' => ∃ bb o9 d, e = .returned (.slice (some ⟨bb, o9, none⟩) (kidT u).length d) ∧ Hid (AccR w w' (.node 6 (⟨#[]⟩ : ByteArray) 0 [a, b, c3] : Go.Tm.T) A c w.heap.size (w.heap.size + 1) (.cells #[] 28 (0, 0)) (its ++ [(bb, o9, d, kidT u)]))) := fun W its v u h hv => by
    rcases hv with ⟨rfl, rfl⟩ | ⟨rfl, rfl⟩ | ⟨rfl, rfl⟩
    · exact kid_acc 0 (by show _ < 3; decide) rfl ha hzs.1 Ia h
    · exact kid_acc 1 (by show _ < 3; decide) rfl hb hzs.2.1 Ib h
    · exact kid_acc 2 (by show _ < 3; decide) rfl hc3 hzs.2.2 Ic3 h
  have hj : Hid (∀ (W : World) (its : List It) (A9 : Option Addr) (c9 n : Nat), LL W A9 its → (∀ x ∈ its, itT x ≠ []) → its.flatMap itT = ts → its.length = n → n ≤ 100 → w.heap.size ≤ W.heap.size → Below w.heap.size w W → Calls Tryz.prog 40 #[.slice A9 n c9] W fun e w' => ∃ b o9 d, e = .returned (.slice (some ⟨b, o9, none⟩) ts.length d) ∧ itOk w' (b, o9, d, ts) ∧ w.heap.size ≤ b ∧ Below w.heap.size w w') := fun W its A9 c9 n h1 h2 h3 h4 h5 h6 h7 => by
    subst h4
    have hne : ts ≠ [] := by have h8 := (toks_len hR).2; rw [hts.out] at h8; intro e; rw [e] at h8; cases h8
    refine (join_any its A9 c9 W h1 h2 (by rw [h3]; exact hlen) (by omega)).mono fun e w' ⟨B, d, g1, g2, g3, g4⟩ => ?_
    rw [h3] at g1 g2
    obtain ⟨b, o9, rfl, _⟩ := g2 hne
    exact ⟨b, o9, d, g1, g2, Nat.le_trans h6 (g3 b o9 rfl), h7.trans (g4.mono h6)⟩
  show Calls Tryz.prog 19 #[.agg #[.int .i64 6, .string ⟨#[]⟩, .int .i64 0, .slice A 3 c]] w _
  have q0 : ((w.alloc (.cells #[.int .i64 6, .string ⟨#[]⟩, .int .i64 0, .slice A 3 c] 35)).alloc (.cells #[] 28)).cell? ⟨w.heap.size, 0, none⟩ = some (.int .i64 6) := cell_of_row _ w.heap.size 0 _ _ _ hO.box
  have q1 : ((w.alloc (.cells #[.int .i64 6, .string ⟨#[]⟩, .int .i64 0, .slice A 3 c] 35)).alloc (.cells #[] 28)).cell? ⟨w.heap.size, 1, none⟩ = some (.string ⟨#[]⟩) := cell_of_row _ w.heap.size 1 _ _ _ hO.box
  have q2 : ((w.alloc (.cells #[.int .i64 6, .string ⟨#[]⟩, .int .i64 0, .slice A 3 c] 35)).alloc (.cells #[] 28)).cell? ⟨w.heap.size, 2, none⟩ = some (.int .i64 0) := cell_of_row _ w.heap.size 2 _ _ _ hO.box
  have q3 : ((w.alloc (.cells #[.int .i64 6, .string ⟨#[]⟩, .int .i64 0, .slice A 3 c] 35)).alloc (.cells #[] 28)).cell? ⟨w.heap.size, 3, none⟩ = some (.slice A 3 c) := cell_of_row _ w.heap.size 3 _ _ _ hO.box
  replace hO := Lib.hid (hO.later (Below.refl _ _).drew)
  clear hT hz hlen
  go_enter Tryz.func19, Tryz.ntmps19
  go_wp2_with fail
  go_region_held3 (fun w' => w'.cell? ⟨w.heap.size, 0, none⟩ = some (.int .i64 6) ∧ w'.cell? ⟨w.heap.size, 1, none⟩ = some (.string ⟨#[]⟩) ∧ w'.cell? ⟨w.heap.size, 2, none⟩ = some (.int .i64 0) ∧ w'.cell? ⟨w.heap.size, 3, none⟩ = some (.slice A 3 c)) (first | exact ⟨q0, q1, q2, q3⟩ | exact hO.out.boxA _) (first | (refine step_app rfl (.tmp 65) (.tmp 75) rfl 6 rfl hO.out (Nat.le_succ _) (by omega) (by decide) (by simp [Act.eval]) (by simp [Act.eval]) ?_; intro A8 c8 w9 hll hbl hbx; have hJ := Lib.hid (hj.out w9 _ A8 c8 6 hll (fun x hx => (hO.out.ok x hx).2.2) (e9.out _ _ _ _ _ _ _ _ _ _ _ _) rfl (by decide) hbl.size hbl); clear hO q0 q1 q2 q3 hll hbl; have q0 : w9.cell? ⟨w.heap.size, 0, none⟩ = some (.int .i64 6) := cell_of_row w9 w.heap.size 0 _ _ _ hbx; have q1 : w9.cell? ⟨w.heap.size, 1, none⟩ = some (.string ⟨#[]⟩) := cell_of_row w9 w.heap.size 1 _ _ _ hbx; have q2 : w9.cell? ⟨w.heap.size, 2, none⟩ = some (.int .i64 0) := cell_of_row w9 w.heap.size 2 _ _ _ hbx; have q3 : w9.cell? ⟨w.heap.size, 3, none⟩ = some (.slice A 3 c) := cell_of_row w9 w.heap.size 3 _ _ _ hbx; clear hbx) | (go_at_call 37; have hP := hO; clear hO q0 q1 q2 q3; refine (key_acc _ hP.out).mono ?_; clear hP; rintro e w9 ⟨g9, rfl, hO⟩; have q0 : w9.cell? ⟨w.heap.size, 0, none⟩ = some (.int .i64 6) := cell_of_row w9 w.heap.size 0 _ _ _ hO.out.box; have q1 : w9.cell? ⟨w.heap.size, 1, none⟩ = some (.string ⟨#[]⟩) := cell_of_row w9 w.heap.size 1 _ _ _ hO.out.box; have q2 : w9.cell? ⟨w.heap.size, 2, none⟩ = some (.int .i64 0) := cell_of_row w9 w.heap.size 2 _ _ _ hO.out.box; have q3 : w9.cell? ⟨w.heap.size, 3, none⟩ = some (.slice A 3 c) := cell_of_row w9 w.heap.size 3 _ _ _ hO.out.box) | (go_at_call 36; have hP := hO; clear hO q0 q1 q2 q3; refine (name_acc _ hP.out).mono ?_; clear hP; rintro e w9 ⟨g9, rfl, hO⟩; have q0 : w9.cell? ⟨w.heap.size, 0, none⟩ = some (.int .i64 6) := cell_of_row w9 w.heap.size 0 _ _ _ hO.out.box; have q1 : w9.cell? ⟨w.heap.size, 1, none⟩ = some (.string ⟨#[]⟩) := cell_of_row w9 w.heap.size 1 _ _ _ hO.out.box; have q2 : w9.cell? ⟨w.heap.size, 2, none⟩ = some (.int .i64 0) := cell_of_row w9 w.heap.size 2 _ _ _ hO.out.box; have q3 : w9.cell? ⟨w.heap.size, 3, none⟩ = some (.slice A 3 c) := cell_of_row w9 w.heap.size 3 _ _ _ hO.out.box) | (go_at_call 38; have hP := hO; clear hO q0 q1 q2 q3; refine (mark_acc _ hP.out).mono ?_; clear hP; rintro e w9 ⟨g9, rfl, hO⟩; have q0 : w9.cell? ⟨w.heap.size, 0, none⟩ = some (.int .i64 6) := cell_of_row w9 w.heap.size 0 _ _ _ hO.out.box; have q1 : w9.cell? ⟨w.heap.size, 1, none⟩ = some (.string ⟨#[]⟩) := cell_of_row w9 w.heap.size 1 _ _ _ hO.out.box; have q2 : w9.cell? ⟨w.heap.size, 2, none⟩ = some (.int .i64 0) := cell_of_row w9 w.heap.size 2 _ _ _ hO.out.box; have q3 : w9.cell? ⟨w.heap.size, 3, none⟩ = some (.slice A 3 c) := cell_of_row w9 w.heap.size 3 _ _ _ hO.out.box) | (go_at_call 39; have hP := hO; clear hO q0 q1 q2 q3; refine (hk.out _ _ _ _ hP.out (by first | exact .inl ⟨rfl, rfl⟩ | exact .inr (.inl ⟨rfl, rfl⟩) | exact .inr (.inr ⟨rfl, rfl⟩))).mono ?_; clear hP; rintro e w9 ⟨b9, o9, d9, rfl, hO⟩; have q0 : w9.cell? ⟨w.heap.size, 0, none⟩ = some (.int .i64 6) := cell_of_row w9 w.heap.size 0 _ _ _ hO.out.box; have q1 : w9.cell? ⟨w.heap.size, 1, none⟩ = some (.string ⟨#[]⟩) := cell_of_row w9 w.heap.size 1 _ _ _ hO.out.box; have q2 : w9.cell? ⟨w.heap.size, 2, none⟩ = some (.int .i64 0) := cell_of_row w9 w.heap.size 2 _ _ _ hO.out.box; have q3 : w9.cell? ⟨w.heap.size, 3, none⟩ = some (.slice A 3 c) := cell_of_row w9 w.heap.size 3 _ _ _ hO.out.box))
  go_wp2_with fail
  refine hJ.out.mono ?_
  rintro e w8 ⟨b8, o8, d8, rfl, h1, h2, h3⟩
  have hfin := Lib.hid (And.intro h1 (And.intro h2 h3))
  clear h1 h2 h3 hJ
  go_wp2_with fail
  go_ret
  exact ⟨_, _, _, rfl, hfin.out.1, hfin.out.2.1, hfin.out.2.2⟩

set_option maxRecDepth 100000 in
set_option maxHeartbeats 2000000 in
theorem tokR_7 (a b : Go.Tm.T) (ha : Rt a) (Ia : TokR a) (hb : Rt b) (Ib : TokR b) : TokR (.node 7 (⟨#[]⟩ : ByteArray) 0 [a, b] : Go.Tm.T) := fun hz A c w hT => by
  have hR : Rt (.node 7 (⟨#[]⟩ : ByteArray) 0 [a, b] : Go.Tm.T) := Rt.loop a b ha hb
  have hlen : (toksT (.node 7 (⟨#[]⟩ : ByteArray) 0 [a, b] : Go.Tm.T)).length ≤ 65536 := by have := (toks_len hR).1; omega
  have hzs : a.size ≤ 10000 ∧ b.size ≤ 10000 := by simp only [T.size, sizes] at hz; omega
  have hO : AccR w ((w.alloc (.cells #[.int .i64 7, .string ⟨#[]⟩, .int .i64 0, .slice A 2 c] 35)).alloc (.cells #[] 28)) (.node 7 (⟨#[]⟩ : ByteArray) 0 [a, b] : Go.Tm.T) A c w.heap.size (w.heap.size + 1) (.cells #[] 28 (0, 0)) [] := by
    have hb := (later_alloc w (.cells #[.int .i64 7, .string ⟨#[]⟩, .int .i64 0, .slice A 2 c] 35)).trans ((later_alloc (w.alloc (.cells #[.int .i64 7, .string ⟨#[]⟩, .int .i64 0, .slice A 2 c] 35)) (.cells #[] 28)).mono (by simp))
    refine ⟨hb, hT.later hb, (Below.heap_alloc _ _ _ (by simp)).trans (World.alloc_heap_new w (.cells #[.int .i64 7, .string ⟨#[]⟩, .int .i64 0, .slice A 2 c] 35)), ?_, fun x hx => by cases hx⟩
    have := World.alloc_heap_new (w.alloc (.cells #[.int .i64 7, .string ⟨#[]⟩, .int .i64 0, .slice A 2 c] 35)) (.cells #[] 28)
    rwa [World.size_alloc] at this
  have e9 : Hid (∀ (x1 x2 y2 z2 x3 x4 y4 z4 : Nat), List.flatMap itT ([] ++ [((x1, 0, 1, [kTok (⟨#[119, 104, 105, 108, 101]⟩ : ByteArray).data.toList]) : It)] ++ [((x2, y2, z2, kidT a) : It)] ++ [((x3, 0, 1, [kTok (⟨#[100, 111]⟩ : ByteArray).data.toList]) : It)] ++ [((x4, y4, z4, kidT b) : It)]) = toksT (.node 7 (⟨#[]⟩ : ByteArray) 0 [a, b] : Go.Tm.T)) := fun _ _ _ _ _ _ _ _ => by
    rw [toks_7]; simp [itT]
  obtain ⟨ts, hts⟩ : ∃ l, toksT (.node 7 (⟨#[]⟩ : ByteArray) 0 [a, b] : Go.Tm.T) = l := ⟨_, rfl⟩
  rw [hts] at e9 hlen ⊢
  replace hts := Lib.hid hts
  have hk : Hid (∀ (W : World) (its : List It) (v : Value) (u : Go.Tm.T), AccR w W (.node 7 (⟨#[]⟩ : ByteArray) 0 [a, b] : Go.Tm.T) A c w.heap.size (w.heap.size + 1) (.cells #[] 28 (0, 0)) its → (v = .int .i64 0 ∧ u = a) ∨ (v = .int .i64 1 ∧ u = b) → Calls Tryz.prog 39 #[.agg #[.int .i64 7, .string ⟨#[]⟩, .int .i64 0, .slice A 2 c], v] W fun e w' => ∃ bb o9 d, e = .returned (.slice (some ⟨bb, o9, none⟩) (kidT u).length d) ∧ Hid (AccR w w' (.node 7 (⟨#[]⟩ : ByteArray) 0 [a, b] : Go.Tm.T) A c w.heap.size (w.heap.size + 1) (.cells #[] 28 (0, 0)) (its ++ [(bb, o9, d, kidT u)]))) := fun W its v u h hv => by
    rcases hv with ⟨rfl, rfl⟩ | ⟨rfl, rfl⟩
    · exact kid_acc 0 (by show _ < 2; decide) rfl ha hzs.1 Ia h
    · exact kid_acc 1 (by show _ < 2; decide) rfl hb hzs.2 Ib h
  have hj : Hid (∀ (W : World) (its : List It) (A9 : Option Addr) (c9 n : Nat), LL W A9 its → (∀ x ∈ its, itT x ≠ []) → its.flatMap itT = ts → its.length = n → n ≤ 100 → w.heap.size ≤ W.heap.size → Below w.heap.size w W → Calls Tryz.prog 40 #[.slice A9 n c9] W fun e w' => ∃ b o9 d, e = .returned (.slice (some ⟨b, o9, none⟩) ts.length d) ∧ itOk w' (b, o9, d, ts) ∧ w.heap.size ≤ b ∧ Below w.heap.size w w') := fun W its A9 c9 n h1 h2 h3 h4 h5 h6 h7 => by
    subst h4
    have hne : ts ≠ [] := by have h8 := (toks_len hR).2; rw [hts.out] at h8; intro e; rw [e] at h8; cases h8
    refine (join_any its A9 c9 W h1 h2 (by rw [h3]; exact hlen) (by omega)).mono fun e w' ⟨B, d, g1, g2, g3, g4⟩ => ?_
    rw [h3] at g1 g2
    obtain ⟨b, o9, rfl, _⟩ := g2 hne
    exact ⟨b, o9, d, g1, g2, Nat.le_trans h6 (g3 b o9 rfl), h7.trans (g4.mono h6)⟩
  show Calls Tryz.prog 19 #[.agg #[.int .i64 7, .string ⟨#[]⟩, .int .i64 0, .slice A 2 c]] w _
  have q0 : ((w.alloc (.cells #[.int .i64 7, .string ⟨#[]⟩, .int .i64 0, .slice A 2 c] 35)).alloc (.cells #[] 28)).cell? ⟨w.heap.size, 0, none⟩ = some (.int .i64 7) := cell_of_row _ w.heap.size 0 _ _ _ hO.box
  have q1 : ((w.alloc (.cells #[.int .i64 7, .string ⟨#[]⟩, .int .i64 0, .slice A 2 c] 35)).alloc (.cells #[] 28)).cell? ⟨w.heap.size, 1, none⟩ = some (.string ⟨#[]⟩) := cell_of_row _ w.heap.size 1 _ _ _ hO.box
  have q2 : ((w.alloc (.cells #[.int .i64 7, .string ⟨#[]⟩, .int .i64 0, .slice A 2 c] 35)).alloc (.cells #[] 28)).cell? ⟨w.heap.size, 2, none⟩ = some (.int .i64 0) := cell_of_row _ w.heap.size 2 _ _ _ hO.box
  have q3 : ((w.alloc (.cells #[.int .i64 7, .string ⟨#[]⟩, .int .i64 0, .slice A 2 c] 35)).alloc (.cells #[] 28)).cell? ⟨w.heap.size, 3, none⟩ = some (.slice A 2 c) := cell_of_row _ w.heap.size 3 _ _ _ hO.box
  replace hO := Lib.hid (hO.later (Below.refl _ _).drew)
  clear hT hz hlen
  go_enter Tryz.func19, Tryz.ntmps19
  go_wp2_with fail
  go_region_held3 (fun w' => w'.cell? ⟨w.heap.size, 0, none⟩ = some (.int .i64 7) ∧ w'.cell? ⟨w.heap.size, 1, none⟩ = some (.string ⟨#[]⟩) ∧ w'.cell? ⟨w.heap.size, 2, none⟩ = some (.int .i64 0) ∧ w'.cell? ⟨w.heap.size, 3, none⟩ = some (.slice A 2 c)) (first | exact ⟨q0, q1, q2, q3⟩ | exact hO.out.boxA _) (first | (refine step_app rfl (.tmp 79) (.tmp 86) rfl 4 rfl hO.out (Nat.le_succ _) (by omega) (by decide) (by simp [Act.eval]) (by simp [Act.eval]) ?_; intro A8 c8 w9 hll hbl hbx; have hJ := Lib.hid (hj.out w9 _ A8 c8 4 hll (fun x hx => (hO.out.ok x hx).2.2) (e9.out _ _ _ _ _ _ _ _) rfl (by decide) hbl.size hbl); clear hO q0 q1 q2 q3 hll hbl; have q0 : w9.cell? ⟨w.heap.size, 0, none⟩ = some (.int .i64 7) := cell_of_row w9 w.heap.size 0 _ _ _ hbx; have q1 : w9.cell? ⟨w.heap.size, 1, none⟩ = some (.string ⟨#[]⟩) := cell_of_row w9 w.heap.size 1 _ _ _ hbx; have q2 : w9.cell? ⟨w.heap.size, 2, none⟩ = some (.int .i64 0) := cell_of_row w9 w.heap.size 2 _ _ _ hbx; have q3 : w9.cell? ⟨w.heap.size, 3, none⟩ = some (.slice A 2 c) := cell_of_row w9 w.heap.size 3 _ _ _ hbx; clear hbx) | (go_at_call 37; have hP := hO; clear hO q0 q1 q2 q3; refine (key_acc _ hP.out).mono ?_; clear hP; rintro e w9 ⟨g9, rfl, hO⟩; have q0 : w9.cell? ⟨w.heap.size, 0, none⟩ = some (.int .i64 7) := cell_of_row w9 w.heap.size 0 _ _ _ hO.out.box; have q1 : w9.cell? ⟨w.heap.size, 1, none⟩ = some (.string ⟨#[]⟩) := cell_of_row w9 w.heap.size 1 _ _ _ hO.out.box; have q2 : w9.cell? ⟨w.heap.size, 2, none⟩ = some (.int .i64 0) := cell_of_row w9 w.heap.size 2 _ _ _ hO.out.box; have q3 : w9.cell? ⟨w.heap.size, 3, none⟩ = some (.slice A 2 c) := cell_of_row w9 w.heap.size 3 _ _ _ hO.out.box) | (go_at_call 36; have hP := hO; clear hO q0 q1 q2 q3; refine (name_acc _ hP.out).mono ?_; clear hP; rintro e w9 ⟨g9, rfl, hO⟩; have q0 : w9.cell? ⟨w.heap.size, 0, none⟩ = some (.int .i64 7) := cell_of_row w9 w.heap.size 0 _ _ _ hO.out.box; have q1 : w9.cell? ⟨w.heap.size, 1, none⟩ = some (.string ⟨#[]⟩) := cell_of_row w9 w.heap.size 1 _ _ _ hO.out.box; have q2 : w9.cell? ⟨w.heap.size, 2, none⟩ = some (.int .i64 0) := cell_of_row w9 w.heap.size 2 _ _ _ hO.out.box; have q3 : w9.cell? ⟨w.heap.size, 3, none⟩ = some (.slice A 2 c) := cell_of_row w9 w.heap.size 3 _ _ _ hO.out.box) | (go_at_call 38; have hP := hO; clear hO q0 q1 q2 q3; refine (mark_acc _ hP.out).mono ?_; clear hP; rintro e w9 ⟨g9, rfl, hO⟩; have q0 : w9.cell? ⟨w.heap.size, 0, none⟩ = some (.int .i64 7) := cell_of_row w9 w.heap.size 0 _ _ _ hO.out.box; have q1 : w9.cell? ⟨w.heap.size, 1, none⟩ = some (.string ⟨#[]⟩) := cell_of_row w9 w.heap.size 1 _ _ _ hO.out.box; have q2 : w9.cell? ⟨w.heap.size, 2, none⟩ = some (.int .i64 0) := cell_of_row w9 w.heap.size 2 _ _ _ hO.out.box; have q3 : w9.cell? ⟨w.heap.size, 3, none⟩ = some (.slice A 2 c) := cell_of_row w9 w.heap.size 3 _ _ _ hO.out.box) | (go_at_call 39; have hP := hO; clear hO q0 q1 q2 q3; refine (hk.out _ _ _ _ hP.out (by first | exact .inl ⟨rfl, rfl⟩ | exact .inr ⟨rfl, rfl⟩)).mono ?_; clear hP; rintro e w9 ⟨b9, o9, d9, rfl, hO⟩; have q0 : w9.cell? ⟨w.heap.size, 0, none⟩ = some (.int .i64 7) := cell_of_row w9 w.heap.size 0 _ _ _ hO.out.box; have q1 : w9.cell? ⟨w.heap.size, 1, none⟩ = some (.string ⟨#[]⟩) := cell_of_row w9 w.heap.size 1 _ _ _ hO.out.box; have q2 : w9.cell? ⟨w.heap.size, 2, none⟩ = some (.int .i64 0) := cell_of_row w9 w.heap.size 2 _ _ _ hO.out.box; have q3 : w9.cell? ⟨w.heap.size, 3, none⟩ = some (.slice A 2 c) := cell_of_row w9 w.heap.size 3 _ _ _ hO.out.box))
  go_wp2_with fail
  refine hJ.out.mono ?_
  rintro e w8 ⟨b8, o8, d8, rfl, h1, h2, h3⟩
  have hfin := Lib.hid (And.intro h1 (And.intro h2 h3))
  clear h1 h2 h3 hJ
  go_wp2_with fail
  go_ret
  exact ⟨_, _, _, rfl, hfin.out.1, hfin.out.2.1, hfin.out.2.2⟩

set_option maxRecDepth 100000 in
set_option maxHeartbeats 2000000 in
theorem tokR_8 (a : Go.Tm.T) (ha : Rt a) (Ia : TokR a) : TokR (.node 8 (⟨#[]⟩ : ByteArray) 0 [a] : Go.Tm.T) := fun hz A c w hT => by
  have hR : Rt (.node 8 (⟨#[]⟩ : ByteArray) 0 [a] : Go.Tm.T) := Rt.raise a ha
  have hlen : (toksT (.node 8 (⟨#[]⟩ : ByteArray) 0 [a] : Go.Tm.T)).length ≤ 65536 := by have := (toks_len hR).1; omega
  have hzs : a.size ≤ 10000 := by simp only [T.size, sizes] at hz; omega
  have hO : AccR w ((w.alloc (.cells #[.int .i64 8, .string ⟨#[]⟩, .int .i64 0, .slice A 1 c] 35)).alloc (.cells #[] 28)) (.node 8 (⟨#[]⟩ : ByteArray) 0 [a] : Go.Tm.T) A c w.heap.size (w.heap.size + 1) (.cells #[] 28 (0, 0)) [] := by
    have hb := (later_alloc w (.cells #[.int .i64 8, .string ⟨#[]⟩, .int .i64 0, .slice A 1 c] 35)).trans ((later_alloc (w.alloc (.cells #[.int .i64 8, .string ⟨#[]⟩, .int .i64 0, .slice A 1 c] 35)) (.cells #[] 28)).mono (by simp))
    refine ⟨hb, hT.later hb, (Below.heap_alloc _ _ _ (by simp)).trans (World.alloc_heap_new w (.cells #[.int .i64 8, .string ⟨#[]⟩, .int .i64 0, .slice A 1 c] 35)), ?_, fun x hx => by cases hx⟩
    have := World.alloc_heap_new (w.alloc (.cells #[.int .i64 8, .string ⟨#[]⟩, .int .i64 0, .slice A 1 c] 35)) (.cells #[] 28)
    rwa [World.size_alloc] at this
  have e9 : Hid (∀ (x1 x2 y2 z2 : Nat), List.flatMap itT ([] ++ [((x1, 0, 1, [kTok (⟨#[114, 97, 105, 115, 101]⟩ : ByteArray).data.toList]) : It)] ++ [((x2, y2, z2, kidT a) : It)]) = toksT (.node 8 (⟨#[]⟩ : ByteArray) 0 [a] : Go.Tm.T)) := fun _ _ _ _ => by
    rw [toks_8]; simp [itT]
  obtain ⟨ts, hts⟩ : ∃ l, toksT (.node 8 (⟨#[]⟩ : ByteArray) 0 [a] : Go.Tm.T) = l := ⟨_, rfl⟩
  rw [hts] at e9 hlen ⊢
  replace hts := Lib.hid hts
  have hk : Hid (∀ (W : World) (its : List It) (v : Value) (u : Go.Tm.T), AccR w W (.node 8 (⟨#[]⟩ : ByteArray) 0 [a] : Go.Tm.T) A c w.heap.size (w.heap.size + 1) (.cells #[] 28 (0, 0)) its → (v = .int .i64 0 ∧ u = a) → Calls Tryz.prog 39 #[.agg #[.int .i64 8, .string ⟨#[]⟩, .int .i64 0, .slice A 1 c], v] W fun e w' => ∃ bb o9 d, e = .returned (.slice (some ⟨bb, o9, none⟩) (kidT u).length d) ∧ Hid (AccR w w' (.node 8 (⟨#[]⟩ : ByteArray) 0 [a] : Go.Tm.T) A c w.heap.size (w.heap.size + 1) (.cells #[] 28 (0, 0)) (its ++ [(bb, o9, d, kidT u)]))) := fun W its v u h hv => by
    obtain ⟨rfl, rfl⟩ := hv
    exact kid_acc 0 (by show _ < 1; decide) rfl ha hzs Ia h
  have hj : Hid (∀ (W : World) (its : List It) (A9 : Option Addr) (c9 n : Nat), LL W A9 its → (∀ x ∈ its, itT x ≠ []) → its.flatMap itT = ts → its.length = n → n ≤ 100 → w.heap.size ≤ W.heap.size → Below w.heap.size w W → Calls Tryz.prog 40 #[.slice A9 n c9] W fun e w' => ∃ b o9 d, e = .returned (.slice (some ⟨b, o9, none⟩) ts.length d) ∧ itOk w' (b, o9, d, ts) ∧ w.heap.size ≤ b ∧ Below w.heap.size w w') := fun W its A9 c9 n h1 h2 h3 h4 h5 h6 h7 => by
    subst h4
    have hne : ts ≠ [] := by have h8 := (toks_len hR).2; rw [hts.out] at h8; intro e; rw [e] at h8; cases h8
    refine (join_any its A9 c9 W h1 h2 (by rw [h3]; exact hlen) (by omega)).mono fun e w' ⟨B, d, g1, g2, g3, g4⟩ => ?_
    rw [h3] at g1 g2
    obtain ⟨b, o9, rfl, _⟩ := g2 hne
    exact ⟨b, o9, d, g1, g2, Nat.le_trans h6 (g3 b o9 rfl), h7.trans (g4.mono h6)⟩
  show Calls Tryz.prog 19 #[.agg #[.int .i64 8, .string ⟨#[]⟩, .int .i64 0, .slice A 1 c]] w _
  have q0 : ((w.alloc (.cells #[.int .i64 8, .string ⟨#[]⟩, .int .i64 0, .slice A 1 c] 35)).alloc (.cells #[] 28)).cell? ⟨w.heap.size, 0, none⟩ = some (.int .i64 8) := cell_of_row _ w.heap.size 0 _ _ _ hO.box
  have q1 : ((w.alloc (.cells #[.int .i64 8, .string ⟨#[]⟩, .int .i64 0, .slice A 1 c] 35)).alloc (.cells #[] 28)).cell? ⟨w.heap.size, 1, none⟩ = some (.string ⟨#[]⟩) := cell_of_row _ w.heap.size 1 _ _ _ hO.box
  have q2 : ((w.alloc (.cells #[.int .i64 8, .string ⟨#[]⟩, .int .i64 0, .slice A 1 c] 35)).alloc (.cells #[] 28)).cell? ⟨w.heap.size, 2, none⟩ = some (.int .i64 0) := cell_of_row _ w.heap.size 2 _ _ _ hO.box
  have q3 : ((w.alloc (.cells #[.int .i64 8, .string ⟨#[]⟩, .int .i64 0, .slice A 1 c] 35)).alloc (.cells #[] 28)).cell? ⟨w.heap.size, 3, none⟩ = some (.slice A 1 c) := cell_of_row _ w.heap.size 3 _ _ _ hO.box
  replace hO := Lib.hid (hO.later (Below.refl _ _).drew)
  clear hT hz hlen
  go_enter Tryz.func19, Tryz.ntmps19
  go_wp2_with fail
  go_region_held3 (fun w' => w'.cell? ⟨w.heap.size, 0, none⟩ = some (.int .i64 8) ∧ w'.cell? ⟨w.heap.size, 1, none⟩ = some (.string ⟨#[]⟩) ∧ w'.cell? ⟨w.heap.size, 2, none⟩ = some (.int .i64 0) ∧ w'.cell? ⟨w.heap.size, 3, none⟩ = some (.slice A 1 c)) (first | exact ⟨q0, q1, q2, q3⟩ | exact hO.out.boxA _) (first | (refine step_app rfl (.tmp 90) (.tmp 94) rfl 2 rfl hO.out (Nat.le_succ _) (by omega) (by decide) (by simp [Act.eval]) (by simp [Act.eval]) ?_; intro A8 c8 w9 hll hbl hbx; have hJ := Lib.hid (hj.out w9 _ A8 c8 2 hll (fun x hx => (hO.out.ok x hx).2.2) (e9.out _ _ _ _) rfl (by decide) hbl.size hbl); clear hO q0 q1 q2 q3 hll hbl; have q0 : w9.cell? ⟨w.heap.size, 0, none⟩ = some (.int .i64 8) := cell_of_row w9 w.heap.size 0 _ _ _ hbx; have q1 : w9.cell? ⟨w.heap.size, 1, none⟩ = some (.string ⟨#[]⟩) := cell_of_row w9 w.heap.size 1 _ _ _ hbx; have q2 : w9.cell? ⟨w.heap.size, 2, none⟩ = some (.int .i64 0) := cell_of_row w9 w.heap.size 2 _ _ _ hbx; have q3 : w9.cell? ⟨w.heap.size, 3, none⟩ = some (.slice A 1 c) := cell_of_row w9 w.heap.size 3 _ _ _ hbx; clear hbx) | (go_at_call 37; have hP := hO; clear hO q0 q1 q2 q3; refine (key_acc _ hP.out).mono ?_; clear hP; rintro e w9 ⟨g9, rfl, hO⟩; have q0 : w9.cell? ⟨w.heap.size, 0, none⟩ = some (.int .i64 8) := cell_of_row w9 w.heap.size 0 _ _ _ hO.out.box; have q1 : w9.cell? ⟨w.heap.size, 1, none⟩ = some (.string ⟨#[]⟩) := cell_of_row w9 w.heap.size 1 _ _ _ hO.out.box; have q2 : w9.cell? ⟨w.heap.size, 2, none⟩ = some (.int .i64 0) := cell_of_row w9 w.heap.size 2 _ _ _ hO.out.box; have q3 : w9.cell? ⟨w.heap.size, 3, none⟩ = some (.slice A 1 c) := cell_of_row w9 w.heap.size 3 _ _ _ hO.out.box) | (go_at_call 36; have hP := hO; clear hO q0 q1 q2 q3; refine (name_acc _ hP.out).mono ?_; clear hP; rintro e w9 ⟨g9, rfl, hO⟩; have q0 : w9.cell? ⟨w.heap.size, 0, none⟩ = some (.int .i64 8) := cell_of_row w9 w.heap.size 0 _ _ _ hO.out.box; have q1 : w9.cell? ⟨w.heap.size, 1, none⟩ = some (.string ⟨#[]⟩) := cell_of_row w9 w.heap.size 1 _ _ _ hO.out.box; have q2 : w9.cell? ⟨w.heap.size, 2, none⟩ = some (.int .i64 0) := cell_of_row w9 w.heap.size 2 _ _ _ hO.out.box; have q3 : w9.cell? ⟨w.heap.size, 3, none⟩ = some (.slice A 1 c) := cell_of_row w9 w.heap.size 3 _ _ _ hO.out.box) | (go_at_call 38; have hP := hO; clear hO q0 q1 q2 q3; refine (mark_acc _ hP.out).mono ?_; clear hP; rintro e w9 ⟨g9, rfl, hO⟩; have q0 : w9.cell? ⟨w.heap.size, 0, none⟩ = some (.int .i64 8) := cell_of_row w9 w.heap.size 0 _ _ _ hO.out.box; have q1 : w9.cell? ⟨w.heap.size, 1, none⟩ = some (.string ⟨#[]⟩) := cell_of_row w9 w.heap.size 1 _ _ _ hO.out.box; have q2 : w9.cell? ⟨w.heap.size, 2, none⟩ = some (.int .i64 0) := cell_of_row w9 w.heap.size 2 _ _ _ hO.out.box; have q3 : w9.cell? ⟨w.heap.size, 3, none⟩ = some (.slice A 1 c) := cell_of_row w9 w.heap.size 3 _ _ _ hO.out.box) | (go_at_call 39; have hP := hO; clear hO q0 q1 q2 q3; refine (hk.out _ _ _ _ hP.out (by first | exact ⟨rfl, rfl⟩)).mono ?_; clear hP; rintro e w9 ⟨b9, o9, d9, rfl, hO⟩; have q0 : w9.cell? ⟨w.heap.size, 0, none⟩ = some (.int .i64 8) := cell_of_row w9 w.heap.size 0 _ _ _ hO.out.box; have q1 : w9.cell? ⟨w.heap.size, 1, none⟩ = some (.string ⟨#[]⟩) := cell_of_row w9 w.heap.size 1 _ _ _ hO.out.box; have q2 : w9.cell? ⟨w.heap.size, 2, none⟩ = some (.int .i64 0) := cell_of_row w9 w.heap.size 2 _ _ _ hO.out.box; have q3 : w9.cell? ⟨w.heap.size, 3, none⟩ = some (.slice A 1 c) := cell_of_row w9 w.heap.size 3 _ _ _ hO.out.box))
  go_wp2_with fail
  refine hJ.out.mono ?_
  rintro e w8 ⟨b8, o8, d8, rfl, h1, h2, h3⟩
  have hfin := Lib.hid (And.intro h1 (And.intro h2 h3))
  clear h1 h2 h3 hJ
  go_wp2_with fail
  go_ret
  exact ⟨_, _, _, rfl, hfin.out.1, hfin.out.2.1, hfin.out.2.2⟩

set_option maxRecDepth 100000 in
set_option maxHeartbeats 2000000 in
theorem tokR_9 (s : ByteArray) (a b : Go.Tm.T) (hs : wordB s = true) (ha : Rt a) (Ia : TokR a) (hb : Rt b) (Ib : TokR b) : TokR (.node 9 s 0 [a, b] : Go.Tm.T) := fun hz A c w hT => by
  have hR : Rt (.node 9 s 0 [a, b] : Go.Tm.T) := Rt.tri s a b hs ha hb
  have hlen : (toksT (.node 9 s 0 [a, b] : Go.Tm.T)).length ≤ 65536 := by have := (toks_len hR).1; omega
  have hzs : a.size ≤ 10000 ∧ b.size ≤ 10000 := by simp only [T.size, sizes] at hz; omega
  have hO : AccR w ((w.alloc (.cells #[.int .i64 9, .string s, .int .i64 0, .slice A 2 c] 35)).alloc (.cells #[] 28)) (.node 9 s 0 [a, b] : Go.Tm.T) A c w.heap.size (w.heap.size + 1) (.cells #[] 28 (0, 0)) [] := by
    have hb := (later_alloc w (.cells #[.int .i64 9, .string s, .int .i64 0, .slice A 2 c] 35)).trans ((later_alloc (w.alloc (.cells #[.int .i64 9, .string s, .int .i64 0, .slice A 2 c] 35)) (.cells #[] 28)).mono (by simp))
    refine ⟨hb, hT.later hb, (Below.heap_alloc _ _ _ (by simp)).trans (World.alloc_heap_new w (.cells #[.int .i64 9, .string s, .int .i64 0, .slice A 2 c] 35)), ?_, fun x hx => by cases hx⟩
    have := World.alloc_heap_new (w.alloc (.cells #[.int .i64 9, .string s, .int .i64 0, .slice A 2 c] 35)) (.cells #[] 28)
    rwa [World.size_alloc] at this
  have e9 : Hid (∀ (x1 x2 y2 z2 x3 x4 x5 x6 y6 z6 : Nat), List.flatMap itT ([] ++ [((x1, 0, 1, [kTok (⟨#[116, 114, 121]⟩ : ByteArray).data.toList]) : It)] ++ [((x2, y2, z2, kidT a) : It)] ++ [((x3, 0, 1, [kTok (⟨#[119, 105, 116, 104]⟩ : ByteArray).data.toList]) : It)] ++ [((x4, 0, 1, [nTok s.data.toList]) : It)] ++ [((x5, 0, 1, [mTok (⟨#[61, 62]⟩ : ByteArray).data.toList]) : It)] ++ [((x6, y6, z6, kidT b) : It)]) = toksT (.node 9 s 0 [a, b] : Go.Tm.T)) := fun _ _ _ _ _ _ _ _ _ _ => by
    rw [toks_9]; simp [itT]
  obtain ⟨ts, hts⟩ : ∃ l, toksT (.node 9 s 0 [a, b] : Go.Tm.T) = l := ⟨_, rfl⟩
  rw [hts] at e9 hlen ⊢
  replace hts := Lib.hid hts
  have hk : Hid (∀ (W : World) (its : List It) (v : Value) (u : Go.Tm.T), AccR w W (.node 9 s 0 [a, b] : Go.Tm.T) A c w.heap.size (w.heap.size + 1) (.cells #[] 28 (0, 0)) its → (v = .int .i64 0 ∧ u = a) ∨ (v = .int .i64 1 ∧ u = b) → Calls Tryz.prog 39 #[.agg #[.int .i64 9, .string s, .int .i64 0, .slice A 2 c], v] W fun e w' => ∃ bb o9 d, e = .returned (.slice (some ⟨bb, o9, none⟩) (kidT u).length d) ∧ Hid (AccR w w' (.node 9 s 0 [a, b] : Go.Tm.T) A c w.heap.size (w.heap.size + 1) (.cells #[] 28 (0, 0)) (its ++ [(bb, o9, d, kidT u)]))) := fun W its v u h hv => by
    rcases hv with ⟨rfl, rfl⟩ | ⟨rfl, rfl⟩
    · exact kid_acc 0 (by show _ < 2; decide) rfl ha hzs.1 Ia h
    · exact kid_acc 1 (by show _ < 2; decide) rfl hb hzs.2 Ib h
  have hj : Hid (∀ (W : World) (its : List It) (A9 : Option Addr) (c9 n : Nat), LL W A9 its → (∀ x ∈ its, itT x ≠ []) → its.flatMap itT = ts → its.length = n → n ≤ 100 → w.heap.size ≤ W.heap.size → Below w.heap.size w W → Calls Tryz.prog 40 #[.slice A9 n c9] W fun e w' => ∃ b o9 d, e = .returned (.slice (some ⟨b, o9, none⟩) ts.length d) ∧ itOk w' (b, o9, d, ts) ∧ w.heap.size ≤ b ∧ Below w.heap.size w w') := fun W its A9 c9 n h1 h2 h3 h4 h5 h6 h7 => by
    subst h4
    have hne : ts ≠ [] := by have h8 := (toks_len hR).2; rw [hts.out] at h8; intro e; rw [e] at h8; cases h8
    refine (join_any its A9 c9 W h1 h2 (by rw [h3]; exact hlen) (by omega)).mono fun e w' ⟨B, d, g1, g2, g3, g4⟩ => ?_
    rw [h3] at g1 g2
    obtain ⟨b, o9, rfl, _⟩ := g2 hne
    exact ⟨b, o9, d, g1, g2, Nat.le_trans h6 (g3 b o9 rfl), h7.trans (g4.mono h6)⟩
  show Calls Tryz.prog 19 #[.agg #[.int .i64 9, .string s, .int .i64 0, .slice A 2 c]] w _
  have q0 : ((w.alloc (.cells #[.int .i64 9, .string s, .int .i64 0, .slice A 2 c] 35)).alloc (.cells #[] 28)).cell? ⟨w.heap.size, 0, none⟩ = some (.int .i64 9) := cell_of_row _ w.heap.size 0 _ _ _ hO.box
  have q1 : ((w.alloc (.cells #[.int .i64 9, .string s, .int .i64 0, .slice A 2 c] 35)).alloc (.cells #[] 28)).cell? ⟨w.heap.size, 1, none⟩ = some (.string s) := cell_of_row _ w.heap.size 1 _ _ _ hO.box
  have q2 : ((w.alloc (.cells #[.int .i64 9, .string s, .int .i64 0, .slice A 2 c] 35)).alloc (.cells #[] 28)).cell? ⟨w.heap.size, 2, none⟩ = some (.int .i64 0) := cell_of_row _ w.heap.size 2 _ _ _ hO.box
  have q3 : ((w.alloc (.cells #[.int .i64 9, .string s, .int .i64 0, .slice A 2 c] 35)).alloc (.cells #[] 28)).cell? ⟨w.heap.size, 3, none⟩ = some (.slice A 2 c) := cell_of_row _ w.heap.size 3 _ _ _ hO.box
  replace hO := Lib.hid (hO.later (Below.refl _ _).drew)
  clear hT hz hlen
  go_enter Tryz.func19, Tryz.ntmps19
  go_wp2_with fail
  go_region_held3 (fun w' => w'.cell? ⟨w.heap.size, 0, none⟩ = some (.int .i64 9) ∧ w'.cell? ⟨w.heap.size, 1, none⟩ = some (.string s) ∧ w'.cell? ⟨w.heap.size, 2, none⟩ = some (.int .i64 0) ∧ w'.cell? ⟨w.heap.size, 3, none⟩ = some (.slice A 2 c)) (first | exact ⟨q0, q1, q2, q3⟩ | exact hO.out.boxA _) (first | (refine step_app rfl (.tmp 98) (.tmp 109) rfl 6 rfl hO.out (Nat.le_succ _) (by omega) (by decide) (by simp [Act.eval]) (by simp [Act.eval]) ?_; intro A8 c8 w9 hll hbl hbx; have hJ := Lib.hid (hj.out w9 _ A8 c8 6 hll (fun x hx => (hO.out.ok x hx).2.2) (e9.out _ _ _ _ _ _ _ _ _ _) rfl (by decide) hbl.size hbl); clear hO q0 q1 q2 q3 hll hbl; have q0 : w9.cell? ⟨w.heap.size, 0, none⟩ = some (.int .i64 9) := cell_of_row w9 w.heap.size 0 _ _ _ hbx; have q1 : w9.cell? ⟨w.heap.size, 1, none⟩ = some (.string s) := cell_of_row w9 w.heap.size 1 _ _ _ hbx; have q2 : w9.cell? ⟨w.heap.size, 2, none⟩ = some (.int .i64 0) := cell_of_row w9 w.heap.size 2 _ _ _ hbx; have q3 : w9.cell? ⟨w.heap.size, 3, none⟩ = some (.slice A 2 c) := cell_of_row w9 w.heap.size 3 _ _ _ hbx; clear hbx) | (go_at_call 37; have hP := hO; clear hO q0 q1 q2 q3; refine (key_acc _ hP.out).mono ?_; clear hP; rintro e w9 ⟨g9, rfl, hO⟩; have q0 : w9.cell? ⟨w.heap.size, 0, none⟩ = some (.int .i64 9) := cell_of_row w9 w.heap.size 0 _ _ _ hO.out.box; have q1 : w9.cell? ⟨w.heap.size, 1, none⟩ = some (.string s) := cell_of_row w9 w.heap.size 1 _ _ _ hO.out.box; have q2 : w9.cell? ⟨w.heap.size, 2, none⟩ = some (.int .i64 0) := cell_of_row w9 w.heap.size 2 _ _ _ hO.out.box; have q3 : w9.cell? ⟨w.heap.size, 3, none⟩ = some (.slice A 2 c) := cell_of_row w9 w.heap.size 3 _ _ _ hO.out.box) | (go_at_call 36; have hP := hO; clear hO q0 q1 q2 q3; refine (name_acc _ hP.out).mono ?_; clear hP; rintro e w9 ⟨g9, rfl, hO⟩; have q0 : w9.cell? ⟨w.heap.size, 0, none⟩ = some (.int .i64 9) := cell_of_row w9 w.heap.size 0 _ _ _ hO.out.box; have q1 : w9.cell? ⟨w.heap.size, 1, none⟩ = some (.string s) := cell_of_row w9 w.heap.size 1 _ _ _ hO.out.box; have q2 : w9.cell? ⟨w.heap.size, 2, none⟩ = some (.int .i64 0) := cell_of_row w9 w.heap.size 2 _ _ _ hO.out.box; have q3 : w9.cell? ⟨w.heap.size, 3, none⟩ = some (.slice A 2 c) := cell_of_row w9 w.heap.size 3 _ _ _ hO.out.box) | (go_at_call 38; have hP := hO; clear hO q0 q1 q2 q3; refine (mark_acc _ hP.out).mono ?_; clear hP; rintro e w9 ⟨g9, rfl, hO⟩; have q0 : w9.cell? ⟨w.heap.size, 0, none⟩ = some (.int .i64 9) := cell_of_row w9 w.heap.size 0 _ _ _ hO.out.box; have q1 : w9.cell? ⟨w.heap.size, 1, none⟩ = some (.string s) := cell_of_row w9 w.heap.size 1 _ _ _ hO.out.box; have q2 : w9.cell? ⟨w.heap.size, 2, none⟩ = some (.int .i64 0) := cell_of_row w9 w.heap.size 2 _ _ _ hO.out.box; have q3 : w9.cell? ⟨w.heap.size, 3, none⟩ = some (.slice A 2 c) := cell_of_row w9 w.heap.size 3 _ _ _ hO.out.box) | (go_at_call 39; have hP := hO; clear hO q0 q1 q2 q3; refine (hk.out _ _ _ _ hP.out (by first | exact .inl ⟨rfl, rfl⟩ | exact .inr ⟨rfl, rfl⟩)).mono ?_; clear hP; rintro e w9 ⟨b9, o9, d9, rfl, hO⟩; have q0 : w9.cell? ⟨w.heap.size, 0, none⟩ = some (.int .i64 9) := cell_of_row w9 w.heap.size 0 _ _ _ hO.out.box; have q1 : w9.cell? ⟨w.heap.size, 1, none⟩ = some (.string s) := cell_of_row w9 w.heap.size 1 _ _ _ hO.out.box; have q2 : w9.cell? ⟨w.heap.size, 2, none⟩ = some (.int .i64 0) := cell_of_row w9 w.heap.size 2 _ _ _ hO.out.box; have q3 : w9.cell? ⟨w.heap.size, 3, none⟩ = some (.slice A 2 c) := cell_of_row w9 w.heap.size 3 _ _ _ hO.out.box))
  go_wp2_with fail
  refine hJ.out.mono ?_
  rintro e w8 ⟨b8, o8, d8, rfl, h1, h2, h3⟩
  have hfin := Lib.hid (And.intro h1 (And.intro h2 h3))
  clear h1 h2 h3 hJ
  go_wp2_with fail
  go_ret
  exact ⟨_, _, _, rfl, hfin.out.1, hfin.out.2.1, hfin.out.2.2⟩

set_option maxRecDepth 100000 in
set_option maxHeartbeats 2000000 in
theorem tokR_10 (a : Go.Tm.T) (ha : Rt a) (Ia : TokR a) : TokR (.node 10 (⟨#[]⟩ : ByteArray) 0 [a] : Go.Tm.T) := fun hz A c w hT => by
  have hR : Rt (.node 10 (⟨#[]⟩ : ByteArray) 0 [a] : Go.Tm.T) := Rt.get a ha
  have hlen : (toksT (.node 10 (⟨#[]⟩ : ByteArray) 0 [a] : Go.Tm.T)).length ≤ 65536 := by have := (toks_len hR).1; omega
  have hzs : a.size ≤ 10000 := by simp only [T.size, sizes] at hz; omega
  have hO : AccR w ((w.alloc (.cells #[.int .i64 10, .string ⟨#[]⟩, .int .i64 0, .slice A 1 c] 35)).alloc (.cells #[] 28)) (.node 10 (⟨#[]⟩ : ByteArray) 0 [a] : Go.Tm.T) A c w.heap.size (w.heap.size + 1) (.cells #[] 28 (0, 0)) [] := by
    have hb := (later_alloc w (.cells #[.int .i64 10, .string ⟨#[]⟩, .int .i64 0, .slice A 1 c] 35)).trans ((later_alloc (w.alloc (.cells #[.int .i64 10, .string ⟨#[]⟩, .int .i64 0, .slice A 1 c] 35)) (.cells #[] 28)).mono (by simp))
    refine ⟨hb, hT.later hb, (Below.heap_alloc _ _ _ (by simp)).trans (World.alloc_heap_new w (.cells #[.int .i64 10, .string ⟨#[]⟩, .int .i64 0, .slice A 1 c] 35)), ?_, fun x hx => by cases hx⟩
    have := World.alloc_heap_new (w.alloc (.cells #[.int .i64 10, .string ⟨#[]⟩, .int .i64 0, .slice A 1 c] 35)) (.cells #[] 28)
    rwa [World.size_alloc] at this
  have e9 : Hid (∀ (x1 x2 y2 z2 : Nat), List.flatMap itT ([] ++ [((x1, 0, 1, [mTok (⟨#[33]⟩ : ByteArray).data.toList]) : It)] ++ [((x2, y2, z2, kidT a) : It)]) = toksT (.node 10 (⟨#[]⟩ : ByteArray) 0 [a] : Go.Tm.T)) := fun _ _ _ _ => by
    rw [toks_10]; simp [itT]
  obtain ⟨ts, hts⟩ : ∃ l, toksT (.node 10 (⟨#[]⟩ : ByteArray) 0 [a] : Go.Tm.T) = l := ⟨_, rfl⟩
  rw [hts] at e9 hlen ⊢
  replace hts := Lib.hid hts
  have hk : Hid (∀ (W : World) (its : List It) (v : Value) (u : Go.Tm.T), AccR w W (.node 10 (⟨#[]⟩ : ByteArray) 0 [a] : Go.Tm.T) A c w.heap.size (w.heap.size + 1) (.cells #[] 28 (0, 0)) its → (v = .int .i64 0 ∧ u = a) → Calls Tryz.prog 39 #[.agg #[.int .i64 10, .string ⟨#[]⟩, .int .i64 0, .slice A 1 c], v] W fun e w' => ∃ bb o9 d, e = .returned (.slice (some ⟨bb, o9, none⟩) (kidT u).length d) ∧ Hid (AccR w w' (.node 10 (⟨#[]⟩ : ByteArray) 0 [a] : Go.Tm.T) A c w.heap.size (w.heap.size + 1) (.cells #[] 28 (0, 0)) (its ++ [(bb, o9, d, kidT u)]))) := fun W its v u h hv => by
    obtain ⟨rfl, rfl⟩ := hv
    exact kid_acc 0 (by show _ < 1; decide) rfl ha hzs Ia h
  have hj : Hid (∀ (W : World) (its : List It) (A9 : Option Addr) (c9 n : Nat), LL W A9 its → (∀ x ∈ its, itT x ≠ []) → its.flatMap itT = ts → its.length = n → n ≤ 100 → w.heap.size ≤ W.heap.size → Below w.heap.size w W → Calls Tryz.prog 40 #[.slice A9 n c9] W fun e w' => ∃ b o9 d, e = .returned (.slice (some ⟨b, o9, none⟩) ts.length d) ∧ itOk w' (b, o9, d, ts) ∧ w.heap.size ≤ b ∧ Below w.heap.size w w') := fun W its A9 c9 n h1 h2 h3 h4 h5 h6 h7 => by
    subst h4
    have hne : ts ≠ [] := by have h8 := (toks_len hR).2; rw [hts.out] at h8; intro e; rw [e] at h8; cases h8
    refine (join_any its A9 c9 W h1 h2 (by rw [h3]; exact hlen) (by omega)).mono fun e w' ⟨B, d, g1, g2, g3, g4⟩ => ?_
    rw [h3] at g1 g2
    obtain ⟨b, o9, rfl, _⟩ := g2 hne
    exact ⟨b, o9, d, g1, g2, Nat.le_trans h6 (g3 b o9 rfl), h7.trans (g4.mono h6)⟩
  show Calls Tryz.prog 19 #[.agg #[.int .i64 10, .string ⟨#[]⟩, .int .i64 0, .slice A 1 c]] w _
  have q0 : ((w.alloc (.cells #[.int .i64 10, .string ⟨#[]⟩, .int .i64 0, .slice A 1 c] 35)).alloc (.cells #[] 28)).cell? ⟨w.heap.size, 0, none⟩ = some (.int .i64 10) := cell_of_row _ w.heap.size 0 _ _ _ hO.box
  have q1 : ((w.alloc (.cells #[.int .i64 10, .string ⟨#[]⟩, .int .i64 0, .slice A 1 c] 35)).alloc (.cells #[] 28)).cell? ⟨w.heap.size, 1, none⟩ = some (.string ⟨#[]⟩) := cell_of_row _ w.heap.size 1 _ _ _ hO.box
  have q2 : ((w.alloc (.cells #[.int .i64 10, .string ⟨#[]⟩, .int .i64 0, .slice A 1 c] 35)).alloc (.cells #[] 28)).cell? ⟨w.heap.size, 2, none⟩ = some (.int .i64 0) := cell_of_row _ w.heap.size 2 _ _ _ hO.box
  have q3 : ((w.alloc (.cells #[.int .i64 10, .string ⟨#[]⟩, .int .i64 0, .slice A 1 c] 35)).alloc (.cells #[] 28)).cell? ⟨w.heap.size, 3, none⟩ = some (.slice A 1 c) := cell_of_row _ w.heap.size 3 _ _ _ hO.box
  replace hO := Lib.hid (hO.later (Below.refl _ _).drew)
  clear hT hz hlen
  go_enter Tryz.func19, Tryz.ntmps19
  go_wp2_with fail
  go_region_held3 (fun w' => w'.cell? ⟨w.heap.size, 0, none⟩ = some (.int .i64 10) ∧ w'.cell? ⟨w.heap.size, 1, none⟩ = some (.string ⟨#[]⟩) ∧ w'.cell? ⟨w.heap.size, 2, none⟩ = some (.int .i64 0) ∧ w'.cell? ⟨w.heap.size, 3, none⟩ = some (.slice A 1 c)) (first | exact ⟨q0, q1, q2, q3⟩ | exact hO.out.boxA _) (first | (refine step_app rfl (.tmp 113) (.tmp 117) rfl 2 rfl hO.out (Nat.le_succ _) (by omega) (by decide) (by simp [Act.eval]) (by simp [Act.eval]) ?_; intro A8 c8 w9 hll hbl hbx; have hJ := Lib.hid (hj.out w9 _ A8 c8 2 hll (fun x hx => (hO.out.ok x hx).2.2) (e9.out _ _ _ _) rfl (by decide) hbl.size hbl); clear hO q0 q1 q2 q3 hll hbl; have q0 : w9.cell? ⟨w.heap.size, 0, none⟩ = some (.int .i64 10) := cell_of_row w9 w.heap.size 0 _ _ _ hbx; have q1 : w9.cell? ⟨w.heap.size, 1, none⟩ = some (.string ⟨#[]⟩) := cell_of_row w9 w.heap.size 1 _ _ _ hbx; have q2 : w9.cell? ⟨w.heap.size, 2, none⟩ = some (.int .i64 0) := cell_of_row w9 w.heap.size 2 _ _ _ hbx; have q3 : w9.cell? ⟨w.heap.size, 3, none⟩ = some (.slice A 1 c) := cell_of_row w9 w.heap.size 3 _ _ _ hbx; clear hbx) | (go_at_call 37; have hP := hO; clear hO q0 q1 q2 q3; refine (key_acc _ hP.out).mono ?_; clear hP; rintro e w9 ⟨g9, rfl, hO⟩; have q0 : w9.cell? ⟨w.heap.size, 0, none⟩ = some (.int .i64 10) := cell_of_row w9 w.heap.size 0 _ _ _ hO.out.box; have q1 : w9.cell? ⟨w.heap.size, 1, none⟩ = some (.string ⟨#[]⟩) := cell_of_row w9 w.heap.size 1 _ _ _ hO.out.box; have q2 : w9.cell? ⟨w.heap.size, 2, none⟩ = some (.int .i64 0) := cell_of_row w9 w.heap.size 2 _ _ _ hO.out.box; have q3 : w9.cell? ⟨w.heap.size, 3, none⟩ = some (.slice A 1 c) := cell_of_row w9 w.heap.size 3 _ _ _ hO.out.box) | (go_at_call 36; have hP := hO; clear hO q0 q1 q2 q3; refine (name_acc _ hP.out).mono ?_; clear hP; rintro e w9 ⟨g9, rfl, hO⟩; have q0 : w9.cell? ⟨w.heap.size, 0, none⟩ = some (.int .i64 10) := cell_of_row w9 w.heap.size 0 _ _ _ hO.out.box; have q1 : w9.cell? ⟨w.heap.size, 1, none⟩ = some (.string ⟨#[]⟩) := cell_of_row w9 w.heap.size 1 _ _ _ hO.out.box; have q2 : w9.cell? ⟨w.heap.size, 2, none⟩ = some (.int .i64 0) := cell_of_row w9 w.heap.size 2 _ _ _ hO.out.box; have q3 : w9.cell? ⟨w.heap.size, 3, none⟩ = some (.slice A 1 c) := cell_of_row w9 w.heap.size 3 _ _ _ hO.out.box) | (go_at_call 38; have hP := hO; clear hO q0 q1 q2 q3; refine (mark_acc _ hP.out).mono ?_; clear hP; rintro e w9 ⟨g9, rfl, hO⟩; have q0 : w9.cell? ⟨w.heap.size, 0, none⟩ = some (.int .i64 10) := cell_of_row w9 w.heap.size 0 _ _ _ hO.out.box; have q1 : w9.cell? ⟨w.heap.size, 1, none⟩ = some (.string ⟨#[]⟩) := cell_of_row w9 w.heap.size 1 _ _ _ hO.out.box; have q2 : w9.cell? ⟨w.heap.size, 2, none⟩ = some (.int .i64 0) := cell_of_row w9 w.heap.size 2 _ _ _ hO.out.box; have q3 : w9.cell? ⟨w.heap.size, 3, none⟩ = some (.slice A 1 c) := cell_of_row w9 w.heap.size 3 _ _ _ hO.out.box) | (go_at_call 39; have hP := hO; clear hO q0 q1 q2 q3; refine (hk.out _ _ _ _ hP.out (by first | exact ⟨rfl, rfl⟩)).mono ?_; clear hP; rintro e w9 ⟨b9, o9, d9, rfl, hO⟩; have q0 : w9.cell? ⟨w.heap.size, 0, none⟩ = some (.int .i64 10) := cell_of_row w9 w.heap.size 0 _ _ _ hO.out.box; have q1 : w9.cell? ⟨w.heap.size, 1, none⟩ = some (.string ⟨#[]⟩) := cell_of_row w9 w.heap.size 1 _ _ _ hO.out.box; have q2 : w9.cell? ⟨w.heap.size, 2, none⟩ = some (.int .i64 0) := cell_of_row w9 w.heap.size 2 _ _ _ hO.out.box; have q3 : w9.cell? ⟨w.heap.size, 3, none⟩ = some (.slice A 1 c) := cell_of_row w9 w.heap.size 3 _ _ _ hO.out.box))
  go_wp2_with fail
  refine hJ.out.mono ?_
  rintro e w8 ⟨b8, o8, d8, rfl, h1, h2, h3⟩
  have hfin := Lib.hid (And.intro h1 (And.intro h2 h3))
  clear h1 h2 h3 hJ
  go_wp2_with fail
  go_ret
  exact ⟨_, _, _, rfl, hfin.out.1, hfin.out.2.1, hfin.out.2.2⟩

set_option maxRecDepth 100000 in
set_option maxHeartbeats 2000000 in
theorem tokR_11 (a b : Go.Tm.T) (ha : Rt a) (Ia : TokR a) (hb : Rt b) (Ib : TokR b) : TokR (.node 11 (⟨#[]⟩ : ByteArray) 0 [a, b] : Go.Tm.T) := fun hz A c w hT => by
  have hR : Rt (.node 11 (⟨#[]⟩ : ByteArray) 0 [a, b] : Go.Tm.T) := Rt.put a b ha hb
  have hlen : (toksT (.node 11 (⟨#[]⟩ : ByteArray) 0 [a, b] : Go.Tm.T)).length ≤ 65536 := by have := (toks_len hR).1; omega
  have hzs : a.size ≤ 10000 ∧ b.size ≤ 10000 := by simp only [T.size, sizes] at hz; omega
  have hO : AccR w ((w.alloc (.cells #[.int .i64 11, .string ⟨#[]⟩, .int .i64 0, .slice A 2 c] 35)).alloc (.cells #[] 28)) (.node 11 (⟨#[]⟩ : ByteArray) 0 [a, b] : Go.Tm.T) A c w.heap.size (w.heap.size + 1) (.cells #[] 28 (0, 0)) [] := by
    have hb := (later_alloc w (.cells #[.int .i64 11, .string ⟨#[]⟩, .int .i64 0, .slice A 2 c] 35)).trans ((later_alloc (w.alloc (.cells #[.int .i64 11, .string ⟨#[]⟩, .int .i64 0, .slice A 2 c] 35)) (.cells #[] 28)).mono (by simp))
    refine ⟨hb, hT.later hb, (Below.heap_alloc _ _ _ (by simp)).trans (World.alloc_heap_new w (.cells #[.int .i64 11, .string ⟨#[]⟩, .int .i64 0, .slice A 2 c] 35)), ?_, fun x hx => by cases hx⟩
    have := World.alloc_heap_new (w.alloc (.cells #[.int .i64 11, .string ⟨#[]⟩, .int .i64 0, .slice A 2 c] 35)) (.cells #[] 28)
    rwa [World.size_alloc] at this
  have e9 : Hid (∀ (x1 y1 z1 x2 x3 y3 z3 : Nat), List.flatMap itT ([] ++ [((x1, y1, z1, kidT a) : It)] ++ [((x2, 0, 1, [mTok (⟨#[58, 61]⟩ : ByteArray).data.toList]) : It)] ++ [((x3, y3, z3, kidT b) : It)]) = toksT (.node 11 (⟨#[]⟩ : ByteArray) 0 [a, b] : Go.Tm.T)) := fun _ _ _ _ _ _ _ => by
    rw [toks_11]; simp [itT]
  obtain ⟨ts, hts⟩ : ∃ l, toksT (.node 11 (⟨#[]⟩ : ByteArray) 0 [a, b] : Go.Tm.T) = l := ⟨_, rfl⟩
  rw [hts] at e9 hlen ⊢
  replace hts := Lib.hid hts
  have hk : Hid (∀ (W : World) (its : List It) (v : Value) (u : Go.Tm.T), AccR w W (.node 11 (⟨#[]⟩ : ByteArray) 0 [a, b] : Go.Tm.T) A c w.heap.size (w.heap.size + 1) (.cells #[] 28 (0, 0)) its → (v = .int .i64 0 ∧ u = a) ∨ (v = .int .i64 1 ∧ u = b) → Calls Tryz.prog 39 #[.agg #[.int .i64 11, .string ⟨#[]⟩, .int .i64 0, .slice A 2 c], v] W fun e w' => ∃ bb o9 d, e = .returned (.slice (some ⟨bb, o9, none⟩) (kidT u).length d) ∧ Hid (AccR w w' (.node 11 (⟨#[]⟩ : ByteArray) 0 [a, b] : Go.Tm.T) A c w.heap.size (w.heap.size + 1) (.cells #[] 28 (0, 0)) (its ++ [(bb, o9, d, kidT u)]))) := fun W its v u h hv => by
    rcases hv with ⟨rfl, rfl⟩ | ⟨rfl, rfl⟩
    · exact kid_acc 0 (by show _ < 2; decide) rfl ha hzs.1 Ia h
    · exact kid_acc 1 (by show _ < 2; decide) rfl hb hzs.2 Ib h
  have hj : Hid (∀ (W : World) (its : List It) (A9 : Option Addr) (c9 n : Nat), LL W A9 its → (∀ x ∈ its, itT x ≠ []) → its.flatMap itT = ts → its.length = n → n ≤ 100 → w.heap.size ≤ W.heap.size → Below w.heap.size w W → Calls Tryz.prog 40 #[.slice A9 n c9] W fun e w' => ∃ b o9 d, e = .returned (.slice (some ⟨b, o9, none⟩) ts.length d) ∧ itOk w' (b, o9, d, ts) ∧ w.heap.size ≤ b ∧ Below w.heap.size w w') := fun W its A9 c9 n h1 h2 h3 h4 h5 h6 h7 => by
    subst h4
    have hne : ts ≠ [] := by have h8 := (toks_len hR).2; rw [hts.out] at h8; intro e; rw [e] at h8; cases h8
    refine (join_any its A9 c9 W h1 h2 (by rw [h3]; exact hlen) (by omega)).mono fun e w' ⟨B, d, g1, g2, g3, g4⟩ => ?_
    rw [h3] at g1 g2
    obtain ⟨b, o9, rfl, _⟩ := g2 hne
    exact ⟨b, o9, d, g1, g2, Nat.le_trans h6 (g3 b o9 rfl), h7.trans (g4.mono h6)⟩
  show Calls Tryz.prog 19 #[.agg #[.int .i64 11, .string ⟨#[]⟩, .int .i64 0, .slice A 2 c]] w _
  have q0 : ((w.alloc (.cells #[.int .i64 11, .string ⟨#[]⟩, .int .i64 0, .slice A 2 c] 35)).alloc (.cells #[] 28)).cell? ⟨w.heap.size, 0, none⟩ = some (.int .i64 11) := cell_of_row _ w.heap.size 0 _ _ _ hO.box
  have q1 : ((w.alloc (.cells #[.int .i64 11, .string ⟨#[]⟩, .int .i64 0, .slice A 2 c] 35)).alloc (.cells #[] 28)).cell? ⟨w.heap.size, 1, none⟩ = some (.string ⟨#[]⟩) := cell_of_row _ w.heap.size 1 _ _ _ hO.box
  have q2 : ((w.alloc (.cells #[.int .i64 11, .string ⟨#[]⟩, .int .i64 0, .slice A 2 c] 35)).alloc (.cells #[] 28)).cell? ⟨w.heap.size, 2, none⟩ = some (.int .i64 0) := cell_of_row _ w.heap.size 2 _ _ _ hO.box
  have q3 : ((w.alloc (.cells #[.int .i64 11, .string ⟨#[]⟩, .int .i64 0, .slice A 2 c] 35)).alloc (.cells #[] 28)).cell? ⟨w.heap.size, 3, none⟩ = some (.slice A 2 c) := cell_of_row _ w.heap.size 3 _ _ _ hO.box
  replace hO := Lib.hid (hO.later (Below.refl _ _).drew)
  clear hT hz hlen
  go_enter Tryz.func19, Tryz.ntmps19
  go_wp2_with fail
  go_region_held3 (fun w' => w'.cell? ⟨w.heap.size, 0, none⟩ = some (.int .i64 11) ∧ w'.cell? ⟨w.heap.size, 1, none⟩ = some (.string ⟨#[]⟩) ∧ w'.cell? ⟨w.heap.size, 2, none⟩ = some (.int .i64 0) ∧ w'.cell? ⟨w.heap.size, 3, none⟩ = some (.slice A 2 c)) (first | exact ⟨q0, q1, q2, q3⟩ | exact hO.out.boxA _) (first | (refine step_app rfl (.tmp 121) (.tmp 127) rfl 3 rfl hO.out (Nat.le_succ _) (by omega) (by decide) (by simp [Act.eval]) (by simp [Act.eval]) ?_; intro A8 c8 w9 hll hbl hbx; have hJ := Lib.hid (hj.out w9 _ A8 c8 3 hll (fun x hx => (hO.out.ok x hx).2.2) (e9.out _ _ _ _ _ _ _) rfl (by decide) hbl.size hbl); clear hO q0 q1 q2 q3 hll hbl; have q0 : w9.cell? ⟨w.heap.size, 0, none⟩ = some (.int .i64 11) := cell_of_row w9 w.heap.size 0 _ _ _ hbx; have q1 : w9.cell? ⟨w.heap.size, 1, none⟩ = some (.string ⟨#[]⟩) := cell_of_row w9 w.heap.size 1 _ _ _ hbx; have q2 : w9.cell? ⟨w.heap.size, 2, none⟩ = some (.int .i64 0) := cell_of_row w9 w.heap.size 2 _ _ _ hbx; have q3 : w9.cell? ⟨w.heap.size, 3, none⟩ = some (.slice A 2 c) := cell_of_row w9 w.heap.size 3 _ _ _ hbx; clear hbx) | (go_at_call 37; have hP := hO; clear hO q0 q1 q2 q3; refine (key_acc _ hP.out).mono ?_; clear hP; rintro e w9 ⟨g9, rfl, hO⟩; have q0 : w9.cell? ⟨w.heap.size, 0, none⟩ = some (.int .i64 11) := cell_of_row w9 w.heap.size 0 _ _ _ hO.out.box; have q1 : w9.cell? ⟨w.heap.size, 1, none⟩ = some (.string ⟨#[]⟩) := cell_of_row w9 w.heap.size 1 _ _ _ hO.out.box; have q2 : w9.cell? ⟨w.heap.size, 2, none⟩ = some (.int .i64 0) := cell_of_row w9 w.heap.size 2 _ _ _ hO.out.box; have q3 : w9.cell? ⟨w.heap.size, 3, none⟩ = some (.slice A 2 c) := cell_of_row w9 w.heap.size 3 _ _ _ hO.out.box) | (go_at_call 36; have hP := hO; clear hO q0 q1 q2 q3; refine (name_acc _ hP.out).mono ?_; clear hP; rintro e w9 ⟨g9, rfl, hO⟩; have q0 : w9.cell? ⟨w.heap.size, 0, none⟩ = some (.int .i64 11) := cell_of_row w9 w.heap.size 0 _ _ _ hO.out.box; have q1 : w9.cell? ⟨w.heap.size, 1, none⟩ = some (.string ⟨#[]⟩) := cell_of_row w9 w.heap.size 1 _ _ _ hO.out.box; have q2 : w9.cell? ⟨w.heap.size, 2, none⟩ = some (.int .i64 0) := cell_of_row w9 w.heap.size 2 _ _ _ hO.out.box; have q3 : w9.cell? ⟨w.heap.size, 3, none⟩ = some (.slice A 2 c) := cell_of_row w9 w.heap.size 3 _ _ _ hO.out.box) | (go_at_call 38; have hP := hO; clear hO q0 q1 q2 q3; refine (mark_acc _ hP.out).mono ?_; clear hP; rintro e w9 ⟨g9, rfl, hO⟩; have q0 : w9.cell? ⟨w.heap.size, 0, none⟩ = some (.int .i64 11) := cell_of_row w9 w.heap.size 0 _ _ _ hO.out.box; have q1 : w9.cell? ⟨w.heap.size, 1, none⟩ = some (.string ⟨#[]⟩) := cell_of_row w9 w.heap.size 1 _ _ _ hO.out.box; have q2 : w9.cell? ⟨w.heap.size, 2, none⟩ = some (.int .i64 0) := cell_of_row w9 w.heap.size 2 _ _ _ hO.out.box; have q3 : w9.cell? ⟨w.heap.size, 3, none⟩ = some (.slice A 2 c) := cell_of_row w9 w.heap.size 3 _ _ _ hO.out.box) | (go_at_call 39; have hP := hO; clear hO q0 q1 q2 q3; refine (hk.out _ _ _ _ hP.out (by first | exact .inl ⟨rfl, rfl⟩ | exact .inr ⟨rfl, rfl⟩)).mono ?_; clear hP; rintro e w9 ⟨b9, o9, d9, rfl, hO⟩; have q0 : w9.cell? ⟨w.heap.size, 0, none⟩ = some (.int .i64 11) := cell_of_row w9 w.heap.size 0 _ _ _ hO.out.box; have q1 : w9.cell? ⟨w.heap.size, 1, none⟩ = some (.string ⟨#[]⟩) := cell_of_row w9 w.heap.size 1 _ _ _ hO.out.box; have q2 : w9.cell? ⟨w.heap.size, 2, none⟩ = some (.int .i64 0) := cell_of_row w9 w.heap.size 2 _ _ _ hO.out.box; have q3 : w9.cell? ⟨w.heap.size, 3, none⟩ = some (.slice A 2 c) := cell_of_row w9 w.heap.size 3 _ _ _ hO.out.box))
  go_wp2_with fail
  refine hJ.out.mono ?_
  rintro e w8 ⟨b8, o8, d8, rfl, h1, h2, h3⟩
  have hfin := Lib.hid (And.intro h1 (And.intro h2 h3))
  clear h1 h2 h3 hJ
  go_wp2_with fail
  go_ret
  exact ⟨_, _, _, rfl, hfin.out.1, hfin.out.2.1, hfin.out.2.2⟩

set_option maxRecDepth 100000 in
set_option maxHeartbeats 2000000 in
theorem tokR_12 (s : ByteArray) (a b : Go.Tm.T) (hs : opB s.data.toList = true) (ha : Rt a) (Ia : TokR a) (hb : Rt b) (Ib : TokR b) : TokR (.node 12 s 0 [a, b] : Go.Tm.T) := fun hz A c w hT => by
  have hR : Rt (.node 12 s 0 [a, b] : Go.Tm.T) := Rt.op s a b hs ha hb
  have hlen : (toksT (.node 12 s 0 [a, b] : Go.Tm.T)).length ≤ 65536 := by have := (toks_len hR).1; omega
  have hzs : a.size ≤ 10000 ∧ b.size ≤ 10000 := by simp only [T.size, sizes] at hz; omega
  have hO : AccR w ((w.alloc (.cells #[.int .i64 12, .string s, .int .i64 0, .slice A 2 c] 35)).alloc (.cells #[] 28)) (.node 12 s 0 [a, b] : Go.Tm.T) A c w.heap.size (w.heap.size + 1) (.cells #[] 28 (0, 0)) [] := by
    have hb := (later_alloc w (.cells #[.int .i64 12, .string s, .int .i64 0, .slice A 2 c] 35)).trans ((later_alloc (w.alloc (.cells #[.int .i64 12, .string s, .int .i64 0, .slice A 2 c] 35)) (.cells #[] 28)).mono (by simp))
    refine ⟨hb, hT.later hb, (Below.heap_alloc _ _ _ (by simp)).trans (World.alloc_heap_new w (.cells #[.int .i64 12, .string s, .int .i64 0, .slice A 2 c] 35)), ?_, fun x hx => by cases hx⟩
    have := World.alloc_heap_new (w.alloc (.cells #[.int .i64 12, .string s, .int .i64 0, .slice A 2 c] 35)) (.cells #[] 28)
    rwa [World.size_alloc] at this
  have e9 : Hid (∀ (x1 y1 z1 x2 x3 y3 z3 : Nat), List.flatMap itT ([] ++ [((x1, y1, z1, kidT a) : It)] ++ [((x2, 0, 1, [mTok s.data.toList]) : It)] ++ [((x3, y3, z3, kidT b) : It)]) = toksT (.node 12 s 0 [a, b] : Go.Tm.T)) := fun _ _ _ _ _ _ _ => by
    rw [toks_12]; simp [itT]
  obtain ⟨ts, hts⟩ : ∃ l, toksT (.node 12 s 0 [a, b] : Go.Tm.T) = l := ⟨_, rfl⟩
  rw [hts] at e9 hlen ⊢
  replace hts := Lib.hid hts
  have hk : Hid (∀ (W : World) (its : List It) (v : Value) (u : Go.Tm.T), AccR w W (.node 12 s 0 [a, b] : Go.Tm.T) A c w.heap.size (w.heap.size + 1) (.cells #[] 28 (0, 0)) its → (v = .int .i64 0 ∧ u = a) ∨ (v = .int .i64 1 ∧ u = b) → Calls Tryz.prog 39 #[.agg #[.int .i64 12, .string s, .int .i64 0, .slice A 2 c], v] W fun e w' => ∃ bb o9 d, e = .returned (.slice (some ⟨bb, o9, none⟩) (kidT u).length d) ∧ Hid (AccR w w' (.node 12 s 0 [a, b] : Go.Tm.T) A c w.heap.size (w.heap.size + 1) (.cells #[] 28 (0, 0)) (its ++ [(bb, o9, d, kidT u)]))) := fun W its v u h hv => by
    rcases hv with ⟨rfl, rfl⟩ | ⟨rfl, rfl⟩
    · exact kid_acc 0 (by show _ < 2; decide) rfl ha hzs.1 Ia h
    · exact kid_acc 1 (by show _ < 2; decide) rfl hb hzs.2 Ib h
  have hj : Hid (∀ (W : World) (its : List It) (A9 : Option Addr) (c9 n : Nat), LL W A9 its → (∀ x ∈ its, itT x ≠ []) → its.flatMap itT = ts → its.length = n → n ≤ 100 → w.heap.size ≤ W.heap.size → Below w.heap.size w W → Calls Tryz.prog 40 #[.slice A9 n c9] W fun e w' => ∃ b o9 d, e = .returned (.slice (some ⟨b, o9, none⟩) ts.length d) ∧ itOk w' (b, o9, d, ts) ∧ w.heap.size ≤ b ∧ Below w.heap.size w w') := fun W its A9 c9 n h1 h2 h3 h4 h5 h6 h7 => by
    subst h4
    have hne : ts ≠ [] := by have h8 := (toks_len hR).2; rw [hts.out] at h8; intro e; rw [e] at h8; cases h8
    refine (join_any its A9 c9 W h1 h2 (by rw [h3]; exact hlen) (by omega)).mono fun e w' ⟨B, d, g1, g2, g3, g4⟩ => ?_
    rw [h3] at g1 g2
    obtain ⟨b, o9, rfl, _⟩ := g2 hne
    exact ⟨b, o9, d, g1, g2, Nat.le_trans h6 (g3 b o9 rfl), h7.trans (g4.mono h6)⟩
  show Calls Tryz.prog 19 #[.agg #[.int .i64 12, .string s, .int .i64 0, .slice A 2 c]] w _
  have q0 : ((w.alloc (.cells #[.int .i64 12, .string s, .int .i64 0, .slice A 2 c] 35)).alloc (.cells #[] 28)).cell? ⟨w.heap.size, 0, none⟩ = some (.int .i64 12) := cell_of_row _ w.heap.size 0 _ _ _ hO.box
  have q1 : ((w.alloc (.cells #[.int .i64 12, .string s, .int .i64 0, .slice A 2 c] 35)).alloc (.cells #[] 28)).cell? ⟨w.heap.size, 1, none⟩ = some (.string s) := cell_of_row _ w.heap.size 1 _ _ _ hO.box
  have q2 : ((w.alloc (.cells #[.int .i64 12, .string s, .int .i64 0, .slice A 2 c] 35)).alloc (.cells #[] 28)).cell? ⟨w.heap.size, 2, none⟩ = some (.int .i64 0) := cell_of_row _ w.heap.size 2 _ _ _ hO.box
  have q3 : ((w.alloc (.cells #[.int .i64 12, .string s, .int .i64 0, .slice A 2 c] 35)).alloc (.cells #[] 28)).cell? ⟨w.heap.size, 3, none⟩ = some (.slice A 2 c) := cell_of_row _ w.heap.size 3 _ _ _ hO.box
  replace hO := Lib.hid (hO.later (Below.refl _ _).drew)
  clear hT hz hlen
  go_enter Tryz.func19, Tryz.ntmps19
  go_wp2_with fail
  go_region_held3 (fun w' => w'.cell? ⟨w.heap.size, 0, none⟩ = some (.int .i64 12) ∧ w'.cell? ⟨w.heap.size, 1, none⟩ = some (.string s) ∧ w'.cell? ⟨w.heap.size, 2, none⟩ = some (.int .i64 0) ∧ w'.cell? ⟨w.heap.size, 3, none⟩ = some (.slice A 2 c)) (first | exact ⟨q0, q1, q2, q3⟩ | exact hO.out.boxA _) (first | (refine step_app rfl (.tmp 131) (.tmp 139) rfl 3 rfl hO.out (Nat.le_succ _) (by omega) (by decide) (by simp [Act.eval]) (by simp [Act.eval]) ?_; intro A8 c8 w9 hll hbl hbx; have hJ := Lib.hid (hj.out w9 _ A8 c8 3 hll (fun x hx => (hO.out.ok x hx).2.2) (e9.out _ _ _ _ _ _ _) rfl (by decide) hbl.size hbl); clear hO q0 q1 q2 q3 hll hbl; have q0 : w9.cell? ⟨w.heap.size, 0, none⟩ = some (.int .i64 12) := cell_of_row w9 w.heap.size 0 _ _ _ hbx; have q1 : w9.cell? ⟨w.heap.size, 1, none⟩ = some (.string s) := cell_of_row w9 w.heap.size 1 _ _ _ hbx; have q2 : w9.cell? ⟨w.heap.size, 2, none⟩ = some (.int .i64 0) := cell_of_row w9 w.heap.size 2 _ _ _ hbx; have q3 : w9.cell? ⟨w.heap.size, 3, none⟩ = some (.slice A 2 c) := cell_of_row w9 w.heap.size 3 _ _ _ hbx; clear hbx) | (go_at_call 37; have hP := hO; clear hO q0 q1 q2 q3; refine (key_acc _ hP.out).mono ?_; clear hP; rintro e w9 ⟨g9, rfl, hO⟩; have q0 : w9.cell? ⟨w.heap.size, 0, none⟩ = some (.int .i64 12) := cell_of_row w9 w.heap.size 0 _ _ _ hO.out.box; have q1 : w9.cell? ⟨w.heap.size, 1, none⟩ = some (.string s) := cell_of_row w9 w.heap.size 1 _ _ _ hO.out.box; have q2 : w9.cell? ⟨w.heap.size, 2, none⟩ = some (.int .i64 0) := cell_of_row w9 w.heap.size 2 _ _ _ hO.out.box; have q3 : w9.cell? ⟨w.heap.size, 3, none⟩ = some (.slice A 2 c) := cell_of_row w9 w.heap.size 3 _ _ _ hO.out.box) | (go_at_call 36; have hP := hO; clear hO q0 q1 q2 q3; refine (name_acc _ hP.out).mono ?_; clear hP; rintro e w9 ⟨g9, rfl, hO⟩; have q0 : w9.cell? ⟨w.heap.size, 0, none⟩ = some (.int .i64 12) := cell_of_row w9 w.heap.size 0 _ _ _ hO.out.box; have q1 : w9.cell? ⟨w.heap.size, 1, none⟩ = some (.string s) := cell_of_row w9 w.heap.size 1 _ _ _ hO.out.box; have q2 : w9.cell? ⟨w.heap.size, 2, none⟩ = some (.int .i64 0) := cell_of_row w9 w.heap.size 2 _ _ _ hO.out.box; have q3 : w9.cell? ⟨w.heap.size, 3, none⟩ = some (.slice A 2 c) := cell_of_row w9 w.heap.size 3 _ _ _ hO.out.box) | (go_at_call 38; have hP := hO; clear hO q0 q1 q2 q3; refine (mark_acc _ hP.out).mono ?_; clear hP; rintro e w9 ⟨g9, rfl, hO⟩; have q0 : w9.cell? ⟨w.heap.size, 0, none⟩ = some (.int .i64 12) := cell_of_row w9 w.heap.size 0 _ _ _ hO.out.box; have q1 : w9.cell? ⟨w.heap.size, 1, none⟩ = some (.string s) := cell_of_row w9 w.heap.size 1 _ _ _ hO.out.box; have q2 : w9.cell? ⟨w.heap.size, 2, none⟩ = some (.int .i64 0) := cell_of_row w9 w.heap.size 2 _ _ _ hO.out.box; have q3 : w9.cell? ⟨w.heap.size, 3, none⟩ = some (.slice A 2 c) := cell_of_row w9 w.heap.size 3 _ _ _ hO.out.box) | (go_at_call 39; have hP := hO; clear hO q0 q1 q2 q3; refine (hk.out _ _ _ _ hP.out (by first | exact .inl ⟨rfl, rfl⟩ | exact .inr ⟨rfl, rfl⟩)).mono ?_; clear hP; rintro e w9 ⟨b9, o9, d9, rfl, hO⟩; have q0 : w9.cell? ⟨w.heap.size, 0, none⟩ = some (.int .i64 12) := cell_of_row w9 w.heap.size 0 _ _ _ hO.out.box; have q1 : w9.cell? ⟨w.heap.size, 1, none⟩ = some (.string s) := cell_of_row w9 w.heap.size 1 _ _ _ hO.out.box; have q2 : w9.cell? ⟨w.heap.size, 2, none⟩ = some (.int .i64 0) := cell_of_row w9 w.heap.size 2 _ _ _ hO.out.box; have q3 : w9.cell? ⟨w.heap.size, 3, none⟩ = some (.slice A 2 c) := cell_of_row w9 w.heap.size 3 _ _ _ hO.out.box))
  go_wp2_with fail
  refine hJ.out.mono ?_
  rintro e w8 ⟨b8, o8, d8, rfl, h1, h2, h3⟩
  have hfin := Lib.hid (And.intro h1 (And.intro h2 h3))
  clear h1 h2 h3 hJ
  go_wp2_with fail
  go_ret
  exact ⟨_, _, _, rfl, hfin.out.1, hfin.out.2.1, hfin.out.2.2⟩

set_option maxRecDepth 100000 in
set_option maxHeartbeats 2000000 in
theorem tokR_13 (a b : Go.Tm.T) (ha : Rt a) (Ia : TokR a) (hb : Rt b) (Ib : TokR b) : TokR (.node 13 (⟨#[]⟩ : ByteArray) 0 [a, b] : Go.Tm.T) := fun hz A c w hT => by
  have hR : Rt (.node 13 (⟨#[]⟩ : ByteArray) 0 [a, b] : Go.Tm.T) := Rt.sq a b ha hb
  have hlen : (toksT (.node 13 (⟨#[]⟩ : ByteArray) 0 [a, b] : Go.Tm.T)).length ≤ 65536 := by have := (toks_len hR).1; omega
  have hzs : a.size ≤ 10000 ∧ b.size ≤ 10000 := by simp only [T.size, sizes] at hz; omega
  have hO : AccR w ((w.alloc (.cells #[.int .i64 13, .string ⟨#[]⟩, .int .i64 0, .slice A 2 c] 35)).alloc (.cells #[] 28)) (.node 13 (⟨#[]⟩ : ByteArray) 0 [a, b] : Go.Tm.T) A c w.heap.size (w.heap.size + 1) (.cells #[] 28 (0, 0)) [] := by
    have hb := (later_alloc w (.cells #[.int .i64 13, .string ⟨#[]⟩, .int .i64 0, .slice A 2 c] 35)).trans ((later_alloc (w.alloc (.cells #[.int .i64 13, .string ⟨#[]⟩, .int .i64 0, .slice A 2 c] 35)) (.cells #[] 28)).mono (by simp))
    refine ⟨hb, hT.later hb, (Below.heap_alloc _ _ _ (by simp)).trans (World.alloc_heap_new w (.cells #[.int .i64 13, .string ⟨#[]⟩, .int .i64 0, .slice A 2 c] 35)), ?_, fun x hx => by cases hx⟩
    have := World.alloc_heap_new (w.alloc (.cells #[.int .i64 13, .string ⟨#[]⟩, .int .i64 0, .slice A 2 c] 35)) (.cells #[] 28)
    rwa [World.size_alloc] at this
  have e9 : Hid (∀ (x1 y1 z1 x2 x3 y3 z3 : Nat), List.flatMap itT ([] ++ [((x1, y1, z1, kidT a) : It)] ++ [((x2, 0, 1, [mTok (⟨#[59]⟩ : ByteArray).data.toList]) : It)] ++ [((x3, y3, z3, kidT b) : It)]) = toksT (.node 13 (⟨#[]⟩ : ByteArray) 0 [a, b] : Go.Tm.T)) := fun _ _ _ _ _ _ _ => by
    rw [toks_13]; simp [itT]
  obtain ⟨ts, hts⟩ : ∃ l, toksT (.node 13 (⟨#[]⟩ : ByteArray) 0 [a, b] : Go.Tm.T) = l := ⟨_, rfl⟩
  rw [hts] at e9 hlen ⊢
  replace hts := Lib.hid hts
  have hk : Hid (∀ (W : World) (its : List It) (v : Value) (u : Go.Tm.T), AccR w W (.node 13 (⟨#[]⟩ : ByteArray) 0 [a, b] : Go.Tm.T) A c w.heap.size (w.heap.size + 1) (.cells #[] 28 (0, 0)) its → (v = .int .i64 0 ∧ u = a) ∨ (v = .int .i64 1 ∧ u = b) → Calls Tryz.prog 39 #[.agg #[.int .i64 13, .string ⟨#[]⟩, .int .i64 0, .slice A 2 c], v] W fun e w' => ∃ bb o9 d, e = .returned (.slice (some ⟨bb, o9, none⟩) (kidT u).length d) ∧ Hid (AccR w w' (.node 13 (⟨#[]⟩ : ByteArray) 0 [a, b] : Go.Tm.T) A c w.heap.size (w.heap.size + 1) (.cells #[] 28 (0, 0)) (its ++ [(bb, o9, d, kidT u)]))) := fun W its v u h hv => by
    rcases hv with ⟨rfl, rfl⟩ | ⟨rfl, rfl⟩
    · exact kid_acc 0 (by show _ < 2; decide) rfl ha hzs.1 Ia h
    · exact kid_acc 1 (by show _ < 2; decide) rfl hb hzs.2 Ib h
  have hj : Hid (∀ (W : World) (its : List It) (A9 : Option Addr) (c9 n : Nat), LL W A9 its → (∀ x ∈ its, itT x ≠ []) → its.flatMap itT = ts → its.length = n → n ≤ 100 → w.heap.size ≤ W.heap.size → Below w.heap.size w W → Calls Tryz.prog 40 #[.slice A9 n c9] W fun e w' => ∃ b o9 d, e = .returned (.slice (some ⟨b, o9, none⟩) ts.length d) ∧ itOk w' (b, o9, d, ts) ∧ w.heap.size ≤ b ∧ Below w.heap.size w w') := fun W its A9 c9 n h1 h2 h3 h4 h5 h6 h7 => by
    subst h4
    have hne : ts ≠ [] := by have h8 := (toks_len hR).2; rw [hts.out] at h8; intro e; rw [e] at h8; cases h8
    refine (join_any its A9 c9 W h1 h2 (by rw [h3]; exact hlen) (by omega)).mono fun e w' ⟨B, d, g1, g2, g3, g4⟩ => ?_
    rw [h3] at g1 g2
    obtain ⟨b, o9, rfl, _⟩ := g2 hne
    exact ⟨b, o9, d, g1, g2, Nat.le_trans h6 (g3 b o9 rfl), h7.trans (g4.mono h6)⟩
  show Calls Tryz.prog 19 #[.agg #[.int .i64 13, .string ⟨#[]⟩, .int .i64 0, .slice A 2 c]] w _
  have q0 : ((w.alloc (.cells #[.int .i64 13, .string ⟨#[]⟩, .int .i64 0, .slice A 2 c] 35)).alloc (.cells #[] 28)).cell? ⟨w.heap.size, 0, none⟩ = some (.int .i64 13) := cell_of_row _ w.heap.size 0 _ _ _ hO.box
  have q1 : ((w.alloc (.cells #[.int .i64 13, .string ⟨#[]⟩, .int .i64 0, .slice A 2 c] 35)).alloc (.cells #[] 28)).cell? ⟨w.heap.size, 1, none⟩ = some (.string ⟨#[]⟩) := cell_of_row _ w.heap.size 1 _ _ _ hO.box
  have q2 : ((w.alloc (.cells #[.int .i64 13, .string ⟨#[]⟩, .int .i64 0, .slice A 2 c] 35)).alloc (.cells #[] 28)).cell? ⟨w.heap.size, 2, none⟩ = some (.int .i64 0) := cell_of_row _ w.heap.size 2 _ _ _ hO.box
  have q3 : ((w.alloc (.cells #[.int .i64 13, .string ⟨#[]⟩, .int .i64 0, .slice A 2 c] 35)).alloc (.cells #[] 28)).cell? ⟨w.heap.size, 3, none⟩ = some (.slice A 2 c) := cell_of_row _ w.heap.size 3 _ _ _ hO.box
  replace hO := Lib.hid (hO.later (Below.refl _ _).drew)
  clear hT hz hlen
  go_enter Tryz.func19, Tryz.ntmps19
  go_wp2_with fail
  go_region_held3 (fun w' => w'.cell? ⟨w.heap.size, 0, none⟩ = some (.int .i64 13) ∧ w'.cell? ⟨w.heap.size, 1, none⟩ = some (.string ⟨#[]⟩) ∧ w'.cell? ⟨w.heap.size, 2, none⟩ = some (.int .i64 0) ∧ w'.cell? ⟨w.heap.size, 3, none⟩ = some (.slice A 2 c)) (first | exact ⟨q0, q1, q2, q3⟩ | exact hO.out.boxA _) (first | (refine step_app rfl (.tmp 143) (.tmp 149) rfl 3 rfl hO.out (Nat.le_succ _) (by omega) (by decide) (by simp [Act.eval]) (by simp [Act.eval]) ?_; intro A8 c8 w9 hll hbl hbx; have hJ := Lib.hid (hj.out w9 _ A8 c8 3 hll (fun x hx => (hO.out.ok x hx).2.2) (e9.out _ _ _ _ _ _ _) rfl (by decide) hbl.size hbl); clear hO q0 q1 q2 q3 hll hbl; have q0 : w9.cell? ⟨w.heap.size, 0, none⟩ = some (.int .i64 13) := cell_of_row w9 w.heap.size 0 _ _ _ hbx; have q1 : w9.cell? ⟨w.heap.size, 1, none⟩ = some (.string ⟨#[]⟩) := cell_of_row w9 w.heap.size 1 _ _ _ hbx; have q2 : w9.cell? ⟨w.heap.size, 2, none⟩ = some (.int .i64 0) := cell_of_row w9 w.heap.size 2 _ _ _ hbx; have q3 : w9.cell? ⟨w.heap.size, 3, none⟩ = some (.slice A 2 c) := cell_of_row w9 w.heap.size 3 _ _ _ hbx; clear hbx) | (go_at_call 37; have hP := hO; clear hO q0 q1 q2 q3; refine (key_acc _ hP.out).mono ?_; clear hP; rintro e w9 ⟨g9, rfl, hO⟩; have q0 : w9.cell? ⟨w.heap.size, 0, none⟩ = some (.int .i64 13) := cell_of_row w9 w.heap.size 0 _ _ _ hO.out.box; have q1 : w9.cell? ⟨w.heap.size, 1, none⟩ = some (.string ⟨#[]⟩) := cell_of_row w9 w.heap.size 1 _ _ _ hO.out.box; have q2 : w9.cell? ⟨w.heap.size, 2, none⟩ = some (.int .i64 0) := cell_of_row w9 w.heap.size 2 _ _ _ hO.out.box; have q3 : w9.cell? ⟨w.heap.size, 3, none⟩ = some (.slice A 2 c) := cell_of_row w9 w.heap.size 3 _ _ _ hO.out.box) | (go_at_call 36; have hP := hO; clear hO q0 q1 q2 q3; refine (name_acc _ hP.out).mono ?_; clear hP; rintro e w9 ⟨g9, rfl, hO⟩; have q0 : w9.cell? ⟨w.heap.size, 0, none⟩ = some (.int .i64 13) := cell_of_row w9 w.heap.size 0 _ _ _ hO.out.box; have q1 : w9.cell? ⟨w.heap.size, 1, none⟩ = some (.string ⟨#[]⟩) := cell_of_row w9 w.heap.size 1 _ _ _ hO.out.box; have q2 : w9.cell? ⟨w.heap.size, 2, none⟩ = some (.int .i64 0) := cell_of_row w9 w.heap.size 2 _ _ _ hO.out.box; have q3 : w9.cell? ⟨w.heap.size, 3, none⟩ = some (.slice A 2 c) := cell_of_row w9 w.heap.size 3 _ _ _ hO.out.box) | (go_at_call 38; have hP := hO; clear hO q0 q1 q2 q3; refine (mark_acc _ hP.out).mono ?_; clear hP; rintro e w9 ⟨g9, rfl, hO⟩; have q0 : w9.cell? ⟨w.heap.size, 0, none⟩ = some (.int .i64 13) := cell_of_row w9 w.heap.size 0 _ _ _ hO.out.box; have q1 : w9.cell? ⟨w.heap.size, 1, none⟩ = some (.string ⟨#[]⟩) := cell_of_row w9 w.heap.size 1 _ _ _ hO.out.box; have q2 : w9.cell? ⟨w.heap.size, 2, none⟩ = some (.int .i64 0) := cell_of_row w9 w.heap.size 2 _ _ _ hO.out.box; have q3 : w9.cell? ⟨w.heap.size, 3, none⟩ = some (.slice A 2 c) := cell_of_row w9 w.heap.size 3 _ _ _ hO.out.box) | (go_at_call 39; have hP := hO; clear hO q0 q1 q2 q3; refine (hk.out _ _ _ _ hP.out (by first | exact .inl ⟨rfl, rfl⟩ | exact .inr ⟨rfl, rfl⟩)).mono ?_; clear hP; rintro e w9 ⟨b9, o9, d9, rfl, hO⟩; have q0 : w9.cell? ⟨w.heap.size, 0, none⟩ = some (.int .i64 13) := cell_of_row w9 w.heap.size 0 _ _ _ hO.out.box; have q1 : w9.cell? ⟨w.heap.size, 1, none⟩ = some (.string ⟨#[]⟩) := cell_of_row w9 w.heap.size 1 _ _ _ hO.out.box; have q2 : w9.cell? ⟨w.heap.size, 2, none⟩ = some (.int .i64 0) := cell_of_row w9 w.heap.size 2 _ _ _ hO.out.box; have q3 : w9.cell? ⟨w.heap.size, 3, none⟩ = some (.slice A 2 c) := cell_of_row w9 w.heap.size 3 _ _ _ hO.out.box))
  go_wp2_with fail
  refine hJ.out.mono ?_
  rintro e w8 ⟨b8, o8, d8, rfl, h1, h2, h3⟩
  have hfin := Lib.hid (And.intro h1 (And.intro h2 h3))
  clear h1 h2 h3 hJ
  go_wp2_with fail
  go_ret
  exact ⟨_, _, _, rfl, hfin.out.1, hfin.out.2.1, hfin.out.2.2⟩
theorem tokR_any {t : Go.Tm.T} (h : Rt t) : TokR t := by
  induction h with
  | num n h0 h1 => exact tokR_1 n h0 h1
  | var s h => exact tokR_2 s
  | fn s a h ha ia => exact tokR_3 s a h ha ia
  | app a b ha hb ia ib => exact tokR_4 a b ha ia hb ib
  | lt s a b h ha hb ia ib => exact tokR_5 s a b h ha ia hb ib
  | cond a b c ha hb hc ia ib ic => exact tokR_6 a b c ha ia hb ib hc ic
  | loop a b ha hb ia ib => exact tokR_7 a b ha ia hb ib
  | raise a ha ia => exact tokR_8 a ha ia
  | tri s a b h ha hb ia ib => exact tokR_9 s a b h ha ia hb ib
  | get a ha ia => exact tokR_10 a ha ia
  | put a b ha hb ia ib => exact tokR_11 a b ha ia hb ib
  | op s a b h ha hb ia ib => exact tokR_12 s a b h ha ia hb ib
  | sq a b ha hb ia ib => exact tokR_13 a b ha ia hb ib
end Go.Proofs.YthmchdpinobbgaaGreatDoor
namespace Go.Proofs.YthmchdpinobbgaaGreatDoor.X
open Go.RowKit Go.Lx
/-- what the reference has printed of the first k -/
def joinTo (ts : List Tok) (k : Nat) : List UInt8 := Lib.join ((ts.take k).map (·.text)) [32]
theorem joinTo_succ (ts : List Tok) (k : Nat) (hk : k < ts.length) : joinTo ts (k + 1) = (if 0 < k then joinTo ts k ++ [32] else joinTo ts k) ++ (ts.getD k ⟨0, [], 0⟩).text := by
  unfold joinTo
  rw [List.take_succ_eq_append_getElem hk, List.map_append, List.getD_eq_getElem?_getD, List.getElem?_eq_getElem hk]
  cases hq : (ts.take k).map (·.text) with
  | nil =>
    have : ts.take k = [] := by simpa using hq
    have h0 : k = 0 := by
      have h9 := congrArg List.length this
      rw [List.length_take, List.length_nil] at h9
      omega
    subst h0
    rw [if_neg (by omega)]
    simp [Lib.join_one, Lib.join_nil]
  | cons x r =>
    have h0 : 0 < k := by
      rcases Nat.eq_zero_or_pos k with h | h
      · subst h; simp at hq
      · exact h
    rw [if_pos h0, List.cons_append, Lib.join_cons, Lib.join_cons]
    simp [Lib.joinTail]
theorem joinTo_len (ts : List Tok) (k : Nat) : (joinTo ts k).length ≤ (Lib.join (ts.map (·.text)) [32]).length := by
  have h1 : ∀ d, (joinTo ts k).length ≤ (joinTo ts (k + d)).length := fun d => by
    induction d with
    | zero => exact Nat.le_refl _
    | succ d ih =>
      refine Nat.le_trans ih ?_
      by_cases h : k + d < ts.length
      · rw [show k + (d + 1) = k + d + 1 from rfl, joinTo_succ ts _ h, List.length_append]
        split <;> simp <;> omega
      · unfold joinTo
        rw [List.take_of_length_le (by omega), List.take_of_length_le (by omega)]
        exact Nat.le_refl _
  have h2 := h1 ts.length
  have e : joinTo ts (k + ts.length) = Lib.join (ts.map (·.text)) [32] := by
    unfold joinTo; rw [List.take_of_length_le (by omega)]
  rwa [e] at h2
theorem strOf_app (a b : List UInt8) : strOf a ++ strOf b = strOf (a ++ b) := by
  have h : (strOf a ++ strOf b).data.toList = (strOf (a ++ b)).data.toList := by
    rw [ByteArray.data_append, Array.toList_append, data_strOf, data_strOf, data_strOf]
  rw [← strOf_data (strOf a ++ strOf b), h, strOf_data]

set_option maxRecDepth 100000 in
set_option maxHeartbeats 1000000 in
theorem refprint_any (A : Option Addr) (ts : List Tok) (c : Nat) (w : World) (hU : Toks w w.heap.size A ts) (hl : ts.length ≤ 1099511627776) (hj : (Lib.join (ts.map (·.text)) [32]).length ≤ 70368744177664) :
    Calls Tryz.prog 21 #[.slice A ts.length c] w fun e w' => e = .returned (.string (strOf (Lib.join (ts.map (·.text)) [32]))) ∧ w' = w := by
  go_enter Tryz.func21, Tryz.ntmps21
  go_wp2_with fail
  go_loop [3, 4] (fun v i => ∃ k : Nat, k ≤ ts.length ∧ i = .int .i64 k ∧ v = .string (strOf (joinTo ts k))) (fun _ i => ts.length - (intOf i).toNat)
  case atStart => exact ⟨0, Nat.zero_le _, rfl, rfl⟩
  case round =>
    obtain ⟨k, hk, rfl, rfl⟩ := hrel
    by_cases hlt : k < ts.length
    · obtain ⟨b, off, rfl, hb, hc⟩ := hU (by intro e; subst e; simp at hlt)
      have c1 := (hc k hlt).2.1
      have hs1 : (strOf (joinTo ts k)).size ≤ 70368744177664 := by rw [size_strOf]; exact Nat.le_trans (joinTo_len ts k) hj
      have hst := joinTo_succ ts k hlt
      have hlen2 := joinTo_len ts (k + 1)
      have hs2 : (strOf (ts.getD k ⟨0, [], 0⟩).text).size ≤ 70368744177664 := by
        rw [size_strOf]
        have := congrArg List.length hst
        rw [List.length_append] at this
        omega
      have hq : (strOf (if 0 < k then joinTo ts k ++ [32] else joinTo ts k)) ++ strOf (ts.getD k ⟨0, [], 0⟩).text = strOf (joinTo ts (k + 1)) := by rw [strOf_app, hst]
      clear hc hst hlen2
      by_cases h0 : 0 < k
      · rw [if_pos h0, ← strOf_app] at hq
        replace hq := Lib.hid (show strOf (joinTo ts k) ++ ⟨#[32]⟩ ++ strOf (ts.getD k ⟨0, [], 0⟩).text = strOf (joinTo ts (k + 1)) from hq)
        generalize strOf (ts.getD k ⟨0, [], 0⟩).text = T0 at c1 hs2 hq
        generalize strOf (joinTo ts k) = P0 at hs1 hq ⊢
        go_wp2_with fail
        go_round
        case rel => exact ⟨k + 1, by omega, by go_num, by rw [← hq.out]⟩
        case measure => simp [intOf]; omega
      · rw [if_neg h0] at hq
        replace hq := Lib.hid hq
        generalize strOf (ts.getD k ⟨0, [], 0⟩).text = T0 at c1 hs2 hq
        generalize strOf (joinTo ts k) = P0 at hs1 hq ⊢
        go_wp2_with fail
        go_round
        case rel => exact ⟨k + 1, by omega, by go_num, by rw [← hq.out]⟩
        case measure => simp [intOf]; omega
    · obtain rfl : k = ts.length := by omega
      have e : joinTo ts ts.length = Lib.join (ts.map (·.text)) [32] := by unfold joinTo; rw [List.take_length]
      rw [e]
      go_wp2_with fail
      go_ret
      exact ⟨rfl, rfl⟩

end Go.Proofs.YthmchdpinobbgaaGreatDoor.X
