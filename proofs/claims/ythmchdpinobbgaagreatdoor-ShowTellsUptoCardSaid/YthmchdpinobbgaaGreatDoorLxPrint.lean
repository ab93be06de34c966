/-
  The walk of lex.Print: the texts, a blank between two. Conditions: the variables that are read lie as laid; what is printed is shorter than 2^47 bytes, of at most 2^40 tokens.
-/
import Derived.Test.YthmchdpinobbgaaGreatDoorLxLex
namespace Go.Proofs.YthmchdpinobbgaaGreatDoor.X
open Go.RowKit Go.Lx

theorem info_str : (Tryz.prog.info? 9).map (fun i => (i.zero, i.size, i.bytes)) = some (some (.string ⟨#[]⟩), 1, 16) := by kernel_rfl
/-- the texts up to k -/
def upText (ts : List Tok) (k j : Nat) : Value := if j < k then .string (strOf (ts.getD j ⟨0, [], 0⟩).text) else .string ⟨#[]⟩
theorem upText_set (ts : List Tok) (k j : Nat) : (if j = k then .string (strOf (ts.getD k ⟨0, [], 0⟩).text) else upText ts k j) = upText ts (k + 1) j := by
  unfold upText
  by_cases e : j = k
  · subst e; rw [if_pos rfl, if_pos (by omega)]
  · rw [if_neg e]
    by_cases g : j < k
    · rw [if_pos g, if_pos (by omega)]
    · rw [if_neg g, if_neg (by omega)]
theorem texts_get {ts : List Tok} {j : Nat} {x : ByteArray} (h : (ts.map fun t => strOf t.text)[j]? = some x) : j < ts.length ∧ x = strOf (ts.getD j ⟨0, [], 0⟩).text := by
  rw [List.getElem?_map] at h
  obtain ⟨t, ht, rfl⟩ := Option.map_eq_some_iff.1 h
  obtain ⟨hj, rfl⟩ := List.getElem?_eq_some_iff.1 ht
  exact ⟨hj, by rw [List.getD_eq_getElem?_getD, ht]; rfl⟩
theorem texts_back (ts : List Tok) : (ts.map fun t => strOf t.text).map (·.data.toList) = ts.map (·.text) := by
  rw [List.map_map]
  apply List.map_congr_left
  intro t _
  exact data_strOf t.text

set_option maxRecDepth 100000 in
set_option maxHeartbeats 1000000 in
theorem print_any (A : Option Addr) (ts : List Tok) (c : Nat) (w : World) (hU : Toks w w.heap.size A ts) (hl : ts.length ≤ 1099511627776) (hj : (Lib.join (ts.map (·.text)) [32]).length ≤ 140737488355328) :
    Calls Tryz.prog 20 #[.slice A ts.length c] w fun e w' => e = .returned (.string (strOf (Lib.join (ts.map (·.text)) [32]))) ∧ Below w.heap.size w w' := by
  have hmk := run_make_row' (P := Tryz.prog) 43 9 (.string ⟨#[]⟩) 16 Tryz.underlying43 info_str rfl .i64 .i64 ts.length (by omega) (by omega)
  replace hj := Lib.hid hj
  go_enter Tryz.func20, Tryz.ntmps20
  go_wp2_with fail
  clear hmk
  go_loopw [11] (fun i wr => ∃ k : Nat, k ≤ ts.length ∧ i = .int .i64 k ∧ wr.rowIs w.heap.size 9 ts.length (upText ts k) ∧ Hid (Below w.heap.size w wr)) (fun i _ => ts.length - (intOf i).toNat)
  case atStart => exact ⟨0, Nat.zero_le _, rfl, (World.rowIs_made w _ _ _).congr fun j _ => by unfold upText; simp, (Below.refl _ _).alloc (Nat.le_refl _) _⟩
  case round =>
    obtain ⟨k, hk, rfl, hrow, hB⟩ := hrel
    by_cases hlt : k < ts.length
    · obtain ⟨b, off, rfl, hb, hc⟩ := hU (by intro e; subst e; simp at hlt)
      obtain ⟨c0, c1, c2⟩ := hc k hlt
      replace c0 := (hB.out.cell (p := ⟨b, off + k * 3, none⟩) hb).trans c0
      replace c1 := (hB.out.cell (p := ⟨b, off + k * 3 + 1, none⟩) hb).trans c1
      replace c2 := (hB.out.cell (p := ⟨b, off + k * 3 + 2, none⟩) hb).trans c2
      have hset := upText_set ts k
      replace hset := Lib.hid hset
      clear hc
      generalize hq : ts.getD k ⟨0, [], 0⟩ = q at c0 c1 c2 hset
      obtain ⟨qk, qt, qn⟩ := q
      dsimp only at c0 c1 c2 hset
      have hxc := hrow.cell hlt
      have hxf := hrow.frozen k
      have hgl := hrow.lt
      clear hq
      go_wp2_with fail
      go_roundw
      case rel => exact ⟨k + 1, by omega, by go_num, ((hrow.set k _).congr fun j _ => hset.out j).alloc _, (hB.out.setCell (p := ⟨w.heap.size, k, none⟩) (Nat.le_refl _) _).alloc (by have := hB.out.size; simpa using this) _⟩
      case measure => simp [intOf]; omega
    · obtain rfl : k = ts.length := by omega
      have kj := Tryz.strings_Join w.heap.size 0 ts.length (ts.map fun t => strOf t.text) ⟨#[32]⟩ wr (fun j x hx => by
        obtain ⟨h1, rfl⟩ := texts_get hx
        have := hrow.cell h1
        unfold upText at this
        rw [if_pos h1] at this
        rw [Nat.zero_add]; exact this) hrow.lt (by rw [List.length_map]; omega) (by rw [List.length_map]; exact Nat.le_refl _) (by rw [texts_back]; exact hj.out)
      rw [List.length_map, texts_back] at kj
      replace kj := Lib.hid kj
      clear hrow
      go_wp2_with fail
      refine kj.out.mono ?_
      rintro e w9 ⟨rfl, hb9⟩
      replace hb9 := Lib.hid hb9
      go_wp2_with fail
      go_ret
      exact ⟨rfl, hB.out.trans (hb9.out.mono hB.out.size)⟩
end Go.Proofs.YthmchdpinobbgaaGreatDoor.X
