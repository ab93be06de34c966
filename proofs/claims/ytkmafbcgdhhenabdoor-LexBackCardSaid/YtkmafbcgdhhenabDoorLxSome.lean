/-
  The walks of the statements' clean and some: a text without line feeds; tokens by bytes. Condition: the bytes can be read.
-/
import Derived.Test.YtkmafbcgdhhenabDoorLxSame
import Derived.Deep.OwnRows
import Derived.Laws.DeepStrings4
namespace Go.Proofs.YtkmafbcgdhhenabDoor
open Go.RowKit Go.Lx

theorem strOf_inj {a b : ByteArray} (h : a.data.toList = b.data.toList) : a = b := by rw [← strOf_data a, ← strOf_data b, h]
def cleanL (t : List UInt8) : List UInt8 := t.filter inLine
theorem clean_yes (s : ByteArray) (k : Nat) (hk : k < s.size) (h : inLine s[k] = true) : strOf (cleanL (s.data.toList.take k)) ++ s.extract k (k + 1) = strOf (cleanL (s.data.toList.take (k + 1))) := by
  apply strOf_inj
  have hk2 : k < s.data.toList.length := by rw [size_data]; exact hk
  have e : s.data.toList[k] = s[k] := rfl
  have hd : (s.data.toList.drop k).take 1 = [s.data.toList[k]] := by
    rw [List.drop_eq_getElem_cons hk2]; rfl
  rw [ByteArray.data_append, Array.toList_append, data_strOf, data_strOf, Lib.extract_data, show k + 1 - k = 1 from by omega, hd, List.take_succ_eq_append_getElem hk2]
  unfold cleanL
  rw [List.filter_append, List.filter_cons, e, h]
  rfl
theorem clean_no (s : ByteArray) (k : Nat) (hk : k < s.size) (h : inLine s[k] = false) : strOf (cleanL (s.data.toList.take k)) = strOf (cleanL (s.data.toList.take (k + 1))) := by
  have hk2 : k < s.data.toList.length := by rw [size_data]; exact hk
  have e : s.data.toList[k] = s[k] := rfl
  rw [List.take_succ_eq_append_getElem hk2]
  unfold cleanL
  rw [List.filter_append, List.filter_cons, e, h]
  simp
theorem slice_one (s : ByteArray) (k : Nat) (hk : k < s.size) (w : World) : (Instr.slice 9 (.string s) (some (.int .i64 (k : Int))) (some (.int .i64 ((k : Int) + 1))) none).run Tryd.prog w = .ok (.string (s.extract k (k + 1))) w := by
  have e : ((k : Int) + 1).toNat = k + 1 := by omega
  rw [run_slice_string_if (P := Tryd.prog) w 9 s .i64 .i64 (k : Int) ((k : Int) + 1) Tryd.underlying9, if_pos (by omega), if_pos (by omega), e]
  rfl
theorem cleanL_all (t : List UInt8) : (cleanL t).all inLine = true := by
  unfold cleanL; rw [List.all_eq_true]; intro c hc; exact (List.mem_filter.1 hc).2

set_option maxRecDepth 100000 in
set_option maxHeartbeats 1000000 in
theorem clean_any (s : ByteArray) (w : World) (hs : s.size ≤ 140737488355328) : Calls Tryd.prog 21 #[.string s] w fun e w' => e = .returned (.string (strOf (cleanL s.data.toList))) ∧ w' = w := by
  go_enter Tryd.func21, Tryd.ntmps21
  go_wp2_with fail
  go_loop [3, 4] (fun o i => ∃ k : Nat, k ≤ s.size ∧ i = .int .i64 k ∧ o = .string (strOf (cleanL (s.data.toList.take k)))) (fun _ i => s.size - (intOf i).toNat)
  case atStart => exact ⟨0, Nat.zero_le _, rfl, rfl⟩
  case round =>
    obtain ⟨k, hk, rfl, rfl⟩ := hrel
    by_cases hlt : k < s.size
    · cases hc : inLine s[k] with
      | true =>
        have g := Lib.hid (clean_yes s k hlt hc)
        have hz : ((s[k].toNat : Int) != 10) = true := by
          unfold inLine at hc; rw [decide_eq_true_eq] at hc; rw [bne_iff_ne]; omega
        have hsl := slice_one s k hlt w
        have hA : (strOf (cleanL (s.data.toList.take k))).size ≤ 140737488355328 := by
          rw [size_strOf]
          unfold cleanL
          have h1 := List.length_filter_le inLine (s.data.toList.take k)
          have h2 : (s.data.toList.take k).length ≤ k := by rw [List.length_take]; omega
          omega
        have hB : (s.extract k (k + 1)).size ≤ 1 := by rw [ByteArray.size_extract]; omega
        clear hc
        generalize strOf (cleanL (s.data.toList.take k)) = P0 at g hA ⊢
        generalize s.extract k (k + 1) = X0 at g hsl hB
        go_wp2_with fail
        go_round
        case rel => exact ⟨k + 1, by omega, by go_num, by rw [← g.out]⟩
        case measure => simp [intOf]; omega
      | false =>
        have g := Lib.hid (clean_no s k hlt hc)
        have hz : ((s[k].toNat : Int) != 10) = false := by
          unfold inLine at hc; rw [decide_eq_false_iff_not] at hc; rw [bne_eq_false_iff_eq]; omega
        clear hc
        go_wp2_with fail
        go_round
        case rel => exact ⟨k + 1, by omega, by go_num, by rw [← g.out]⟩
        case measure => simp [intOf]; omega
    · obtain rfl : k = s.size := by omega
      rw [List.take_of_length_le (show s.data.toList.length ≤ s.size by rw [size_data]; exact Nat.le_refl _)]
      go_wp2_with fail
      go_ret
      exact ⟨rfl, rfl⟩

/-! tokens by bytes -/
def all14 : List Tok := [⟨1, [120], 0⟩, ⟨1, [76, 111, 49], 0⟩, ⟨2, [48], 0⟩, ⟨2, [50, 49, 52, 55, 52, 56, 51, 54, 52, 55], 2147483647⟩, ⟨2, [49, 55], 17⟩, ⟨3, [102, 117, 110], 0⟩, ⟨3, [119, 104, 105, 108, 101], 0⟩, ⟨4, [61], 0⟩, ⟨4, [61, 62], 0⟩, ⟨4, [58], 0⟩, ⟨4, [58, 61], 0⟩, ⟨4, [40], 0⟩, ⟨4, [46], 0⟩, ⟨4, [60], 0⟩]
def pick14 (z : Int) : Tok := all14.getD (z % 14).toNat ⟨0, [], 0⟩
def someL (zs : List Int) : List Tok := zs.map pick14
theorem all14_right : ∀ t ∈ all14, rightT t = true ∧ t.text.length ≤ 10 := by decide +kernel
theorem pick_mem (z : Int) : pick14 z ∈ all14 := by
  unfold pick14
  have h2 : (z % 14).toNat < all14.length := by show _ < 14; omega
  rw [List.getD_eq_getElem?_getD, List.getElem?_eq_getElem h2]
  exact List.getElem_mem _
/-- bytes behind a slice -/
def Bts (w : World) (B : Nat) (A : Option Addr) (zs : List Int) : Prop :=
  zs ≠ [] → ∃ b off, A = some ⟨b, off, none⟩ ∧ b < B ∧ ∀ j, j < zs.length → w.cell? ⟨b, off + j, none⟩ = some (.int .u8 (zs.getD j 0))
theorem Bts.later {w w' : World} {A : Option Addr} {zs : List Int} (h : Bts w w.heap.size A zs) (hb : Below w.heap.size w w') : Bts w' w'.heap.size A zs := fun hn => by
  obtain ⟨b, off, hA, hlt, hc⟩ := h hn
  exact ⟨b, off, hA, Nat.lt_of_lt_of_le hlt hb.size, fun j hj => (hb.cell (p := ⟨b, off + j, none⟩) hlt).trans (hc j hj)⟩
theorem someL_succ (zs : List Int) (k : Nat) (hk : k < zs.length) : someL (zs.take (k + 1)) = someL (zs.take k) ++ [pick14 (zs.getD k 0)] := by
  unfold someL
  rw [List.take_succ_eq_append_getElem hk, List.map_append, List.getD_eq_getElem?_getD, List.getElem?_eq_getElem hk]
  rfl
theorem heap_new (w : World) (o : Obj) : (w.alloc o).heap[w.heap.size]? = some o := by
  show (w.heap.push o)[w.heap.size]? = some o
  simp
theorem toks14 (W : World) : Toks (W.alloc (.cells (cellsOf all14).toArray 41)) (W.alloc (.cells (cellsOf all14).toArray 41)).heap.size (some ⟨W.heap.size, 0, none⟩) all14 := fun _ => by
  refine ⟨W.heap.size, 0, rfl, by simp, fun j hj => ?_⟩
  obtain ⟨c0, c1, c2⟩ := cellsOf_get all14 j hj
  have key : ∀ i u, (cellsOf all14)[i]? = some u → (W.alloc (.cells (cellsOf all14).toArray 41)).cell? ⟨W.heap.size, 0 + i, none⟩ = some u := fun i u hu => by
    rw [Nat.zero_add, cell_of_row _ W.heap.size i _ _ _ (heap_new W _), List.getElem?_toArray]
    exact hu
  exact ⟨key _ _ c0, key _ _ c1, key _ _ c2⟩

set_option maxRecDepth 100000 in
set_option maxHeartbeats 2000000 in
theorem some_any (A : Option Addr) (zs : List Int) (c : Nat) (w : World) (hU : Bts w w.heap.size A zs) (hz : ∀ z ∈ zs, 0 ≤ z) (hl : zs.length ≤ 300) :
    Calls Tryd.prog 20 #[.slice A zs.length c] w fun e w' => ∃ B d, e = .returned (.slice B zs.length d) ∧ Below w.heap.size w w' ∧ Toks w' w'.heap.size B (someL zs) ∧ zs.length ≤ d ∧ d ≤ 9223372036854775807 := by
  obtain ⟨i0, hi, hi2⟩ := Option.map_eq_some_iff.1 info_tok
  obtain ⟨hz0, hz1, hz2⟩ : i0.zero = some (.agg #[.int .i64 0, .string ⟨#[]⟩, .int .i64 0]) ∧ i0.size = 3 ∧ i0.bytes = 32 := by
    injection hi2 with h1 h2; injection h2 with h2 h3; exact ⟨h1, h2, h3⟩
  replace hi := Lib.hid hi
  replace hz0 := Lib.hid hz0
  replace hz1 := Lib.hid hz1
  replace hz2 := Lib.hid hz2
  replace hz := Lib.hid hz
  clear hi2
  have hT : Hid (Toks (w.alloc (.cells #[.int .i64 1, .string ⟨#[120]⟩, .int .i64 0, .int .i64 1, .string ⟨#[76, 111, 49]⟩, .int .i64 0, .int .i64 2, .string ⟨#[48]⟩, .int .i64 0, .int .i64 2, .string ⟨#[50, 49, 52, 55, 52, 56, 51, 54, 52, 55]⟩, .int .i64 2147483647, .int .i64 2, .string ⟨#[49, 55]⟩, .int .i64 17, .int .i64 3, .string ⟨#[102, 117, 110]⟩, .int .i64 0, .int .i64 3, .string ⟨#[119, 104, 105, 108, 101]⟩, .int .i64 0, .int .i64 4, .string ⟨#[61]⟩, .int .i64 0, .int .i64 4, .string ⟨#[61, 62]⟩, .int .i64 0, .int .i64 4, .string ⟨#[58]⟩, .int .i64 0, .int .i64 4, .string ⟨#[58, 61]⟩, .int .i64 0, .int .i64 4, .string ⟨#[40]⟩, .int .i64 0, .int .i64 4, .string ⟨#[46]⟩, .int .i64 0, .int .i64 4, .string ⟨#[60]⟩, .int .i64 0] 41)) (w.alloc (.cells #[.int .i64 1, .string ⟨#[120]⟩, .int .i64 0, .int .i64 1, .string ⟨#[76, 111, 49]⟩, .int .i64 0, .int .i64 2, .string ⟨#[48]⟩, .int .i64 0, .int .i64 2, .string ⟨#[50, 49, 52, 55, 52, 56, 51, 54, 52, 55]⟩, .int .i64 2147483647, .int .i64 2, .string ⟨#[49, 55]⟩, .int .i64 17, .int .i64 3, .string ⟨#[102, 117, 110]⟩, .int .i64 0, .int .i64 3, .string ⟨#[119, 104, 105, 108, 101]⟩, .int .i64 0, .int .i64 4, .string ⟨#[61]⟩, .int .i64 0, .int .i64 4, .string ⟨#[61, 62]⟩, .int .i64 0, .int .i64 4, .string ⟨#[58]⟩, .int .i64 0, .int .i64 4, .string ⟨#[58, 61]⟩, .int .i64 0, .int .i64 4, .string ⟨#[40]⟩, .int .i64 0, .int .i64 4, .string ⟨#[46]⟩, .int .i64 0, .int .i64 4, .string ⟨#[60]⟩, .int .i64 0] 41)).heap.size (some ⟨w.heap.size, 0, none⟩) all14) := toks14 w
  have hb0 : Hid (Below w.heap.size w (w.alloc (.cells #[.int .i64 1, .string ⟨#[120]⟩, .int .i64 0, .int .i64 1, .string ⟨#[76, 111, 49]⟩, .int .i64 0, .int .i64 2, .string ⟨#[48]⟩, .int .i64 0, .int .i64 2, .string ⟨#[50, 49, 52, 55, 52, 56, 51, 54, 52, 55]⟩, .int .i64 2147483647, .int .i64 2, .string ⟨#[49, 55]⟩, .int .i64 17, .int .i64 3, .string ⟨#[102, 117, 110]⟩, .int .i64 0, .int .i64 3, .string ⟨#[119, 104, 105, 108, 101]⟩, .int .i64 0, .int .i64 4, .string ⟨#[61]⟩, .int .i64 0, .int .i64 4, .string ⟨#[61, 62]⟩, .int .i64 0, .int .i64 4, .string ⟨#[58]⟩, .int .i64 0, .int .i64 4, .string ⟨#[58, 61]⟩, .int .i64 0, .int .i64 4, .string ⟨#[40]⟩, .int .i64 0, .int .i64 4, .string ⟨#[46]⟩, .int .i64 0, .int .i64 4, .string ⟨#[60]⟩, .int .i64 0] 41))) := later_alloc w _
  go_enter Tryd.func20, Tryd.ntmps20
  go_wp2_with fail
  generalize w.alloc (.cells #[.int .i64 1, .string ⟨#[120]⟩, .int .i64 0, .int .i64 1, .string ⟨#[76, 111, 49]⟩, .int .i64 0, .int .i64 2, .string ⟨#[48]⟩, .int .i64 0, .int .i64 2, .string ⟨#[50, 49, 52, 55, 52, 56, 51, 54, 52, 55]⟩, .int .i64 2147483647, .int .i64 2, .string ⟨#[49, 55]⟩, .int .i64 17, .int .i64 3, .string ⟨#[102, 117, 110]⟩, .int .i64 0, .int .i64 3, .string ⟨#[119, 104, 105, 108, 101]⟩, .int .i64 0, .int .i64 4, .string ⟨#[61]⟩, .int .i64 0, .int .i64 4, .string ⟨#[61, 62]⟩, .int .i64 0, .int .i64 4, .string ⟨#[58]⟩, .int .i64 0, .int .i64 4, .string ⟨#[58, 61]⟩, .int .i64 0, .int .i64 4, .string ⟨#[40]⟩, .int .i64 0, .int .i64 4, .string ⟨#[46]⟩, .int .i64 0, .int .i64 4, .string ⟨#[60]⟩, .int .i64 0] 41) = W0 at hT hb0 ⊢
  replace hU := Lib.hid (hU.later hb0.out)
  generalize w.heap.size = g0 at hT ⊢
  go_loopw [4, 5] (fun v i wr => ∃ (k : Nat) (v' : Value), k ≤ zs.length ∧ i = .int .i64 k ∧ v = v' ∧ Hid (wr.ownsRow W0.heap.size 41 3 v' (someL (zs.take k)).length (cellsOf (someL (zs.take k)))) ∧ Hid (Below W0.heap.size W0 wr)) (fun _ i _ => zs.length - (intOf i).toNat)
  case atStart => exact ⟨0, _, Nat.zero_le _, rfl, rfl, World.ownsRow_nil _ _ _ _, Below.refl _ _⟩
  case round =>
    obtain ⟨k, v', hk, rfl, rfl, hown, hB⟩ := hrel
    by_cases hlt : k < zs.length
    · obtain ⟨b, off, rfl, hb, hc⟩ := hU.out (by intro e; subst e; simp at hlt)
      have c0 := (hB.out.cell (p := ⟨b, off + k, none⟩) hb).trans (hc k hlt)
      have hsucc := Lib.hid (someL_succ zs k hlt)
      have hz3 : 0 ≤ zs.getD k 0 := by
        rw [List.getD_eq_getElem?_getD, List.getElem?_eq_getElem hlt]
        exact hz.out _ (List.getElem_mem hlt)
      generalize zs.getD k 0 = z at c0 hsucc hz3
      obtain ⟨bb, oo, h14, _, hc14⟩ := (hT.out.later hB.out) (by decide)
      cases h14
      have hj0 : 0 ≤ z % 14 := by omega
      have hj1 : z % 14 < 14 := by omega
      obtain ⟨d0, d1, d2⟩ := hc14 (z % 14).toNat (by show _ < 14; omega)
      rw [Nat.zero_add] at d0 d1 d2
      have hq : all14.getD (z % 14).toNat ⟨0, [], 0⟩ = pick14 z := rfl
      rw [hq] at d0 d1 d2
      generalize pick14 z = q at d0 d1 d2 hsucc hq
      obtain ⟨qk, qt, qn⟩ := q
      dsimp only at d0 d1 d2
      have hbx := Lib.hid (Box3.new wr (.int .i64 qk) (.string (strOf qt)) (.int .i64 qn))
      have hown1 := Lib.hid (own_later hown.out (later_alloc wr (.cells #[.int .i64 qk, .string (strOf qt), .int .i64 qn] 41)))
      have hb9 : Hid (Below W0.heap.size W0 (wr.alloc (.cells #[.int .i64 qk, .string (strOf qt), .int .i64 qn] 41))) := hB.out.alloc hB.out.size _
      have hlk : (someL (zs.take k)).length = k := by unfold someL; rw [List.length_map, List.length_take]; omega
      clear hq hc14 hc hown
      go_wp2_with (at_builtin; refine wpList_append_own _ rfl _ _ 22 rfl W0.heap.size 41 i0 (.agg #[.int .i64 0, .string ⟨#[]⟩, .int .i64 0]) 3 32 Tryd.underlying22 hi.out hz0.out hz1.out hz2.out rfl (by decide) _ _ _ rfl hown1.out ⟨wr.heap.size, 0, none⟩ 1 1 [.int .i64 qk, .string (strOf qt), .int .i64 qn] rfl rfl ?c1 ?c2 ?c3 ?c4 ?c5 ?_)
      case c1 =>
        intro j u hj
        match j, hj with
        | 0, hj => cases hj; exact hbx.out.c0
        | 1, hj => cases hj; exact hbx.out.c1
        | 2, hj => cases hj; exact hbx.out.c2
        | j + 3, hj => simp at hj
      case c2 =>
        intro u hu
        simp at hu
        rcases hu with rfl | rfl | rfl <;> rfl
      case c3 => unfold maxLen; omega
      case c4 => omega
      case c5 => exact hb9.out.size
      · intro v'' w1 hown' hgrow _
        have hown2 : Hid (w1.ownsRow W0.heap.size 41 3 v'' (someL (zs.take (k + 1))).length (cellsOf (someL (zs.take (k + 1))))) := by
          show w1.ownsRow _ _ _ _ _ _
          rw [hsucc.out, cellsOf_snoc, List.length_append, hlk]
          exact hown'
        have hb3 : Hid (Below W0.heap.size W0 w1) := by
          show Below _ _ _
          exact hb9.out.grown hgrow hb9.out.size (own_block hown1.out)
        clear hown' hgrow
        go_wp2_with fail
        go_roundw
        case rel => exact ⟨k + 1, _, by omega, by go_num, rfl, hown2, hb3⟩
        case measure => simp [intOf]; omega
    · obtain rfl : k = zs.length := by omega
      rw [List.take_length] at hown
      obtain ⟨B, d, rfl, hTk, h1, h2, _⟩ := toks_of hown.out
      have hlz : (someL zs).length = zs.length := by unfold someL; rw [List.length_map]
      rw [hlz] at h1 ⊢
      replace hTk := Lib.hid hTk
      clear hown hlz
      go_wp2_with fail
      go_ret
      exact ⟨B, d, rfl, hb0.out.trans (hB.out.mono hb0.out.size), hTk.out, h1, h2⟩
end Go.Proofs.YtkmafbcgdhhenabDoor
