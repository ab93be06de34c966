/-
  The walks of the reference's Cut and row. Conditions: a text shorter than 2^32 bytes; lines of at most 64.
-/
import Derived.Test.YtieamjpfmjkchaaDoorLtRf6
import Derived.Laws.AppendOwn
namespace Go.Proofs.YtieamjpfmjkchaaDoor
open Go.RowKit Go.Shelf Go.Lt

theorem own_later {W W' : World} {base size n : Nat} {e : TypeId} {v : Value} {xs : List Value} (h : W.ownsRow base e size v n xs) (hb : Below W.heap.size W W') : W'.ownsRow base e size v n xs := by
  obtain ⟨h1, h2 | ⟨g, cap, cur, hv, hbg, hg, r⟩⟩ := h
  · exact ⟨h1, .inl h2⟩
  · exact ⟨h1, .inr ⟨g, cap, cur, hv, hbg, (hb.block g (Array.getElem?_eq_some_iff.1 hg).1).trans hg, r⟩⟩
theorem own_block {W : World} {base size n : Nat} {e : TypeId} {v : Value} {xs : List Value} (h : W.ownsRow base e size v n xs) (k : Nat) (hk : v.ownBlock = some k) : base ≤ k := by
  obtain ⟨_, ⟨rfl, _⟩ | ⟨g, cap, cur, rfl, hbg, _⟩⟩ := h
  · cases hk
  · cases hk; exact hbg
theorem info_str : (Tryd.prog.info? 9).map (fun i => (i.zero, i.size, i.bytes)) = some (some (.string ⟨#[]⟩), 1, 16) := by kernel_rfl
theorem strs_own {W : World} {base : Nat} {v : Value} {l : List ByteArray} (h : W.ownsRow base 9 1 v l.length (l.map Value.string)) :
    ∃ A c, v = .slice A l.length c ∧ Strs W W.heap.size A l ∧ l.length ≤ c ∧ c ≤ 9223372036854775807 := by
  obtain ⟨_, h1 | ⟨g, cap, cur, rfl, _, hg, h2, h3, h4, h5⟩⟩ := h
  · obtain ⟨rfl, h0⟩ := h1
    rw [h0]
    exact ⟨none, 0, rfl, by rw [List.length_eq_zero_iff.1 h0]; exact Strs.nil _ _ _, Nat.le_refl _, by decide⟩
  · refine ⟨some ⟨g, 0, none⟩, cap, rfl, fun _ => ⟨g, 0, rfl, (Array.getElem?_eq_some_iff.1 hg).1, fun j hj => ?_⟩, h2, h3⟩
    have e : cur[j]? = some (.string (Lt.nm l j)) := by
      have : (l.map Value.string)[j]? = some (.string (Lt.nm l j)) := by
        rw [List.getElem?_map]
        unfold Lt.nm
        rw [List.getD_eq_getElem?_getD, List.getElem?_eq_getElem hj]; rfl
      rw [← h5, List.getElem?_take_of_lt (by omega), Array.getElem?_toList] at this
      exact this
    rw [Nat.zero_add, cell_of_row W g j cur _ _ hg]
    exact e
theorem words_own {W : World} {base : Nat} {v : Value} {l : List Nat} (h : W.ownsRow base 50 1 v l.length (l.map fun u : Nat => Value.int .u64 (u : Int))) :
    ∃ A c, v = .slice A l.length c ∧ Words W W.heap.size A l := by
  obtain ⟨_, h1 | ⟨g, cap, cur, rfl, _, hg, h2, h3, h4, h5⟩⟩ := h
  · obtain ⟨rfl, h0⟩ := h1
    rw [h0]
    exact ⟨none, 0, rfl, by rw [List.length_eq_zero_iff.1 h0]; exact Words.nil _ _ _⟩
  · refine ⟨some ⟨g, 0, none⟩, cap, rfl, fun _ => ⟨g, 0, rfl, (Array.getElem?_eq_some_iff.1 hg).1, fun j hj => ?_⟩⟩
    have e : cur[j]? = some (.int .u64 (Lt.row l j : Nat)) := by
      have : (l.map fun u : Nat => Value.int .u64 (u : Int))[j]? = some (.int .u64 (Lt.row l j : Nat)) := by
        rw [List.getElem?_map]
        unfold Lt.row
        rw [List.getD_eq_getElem?_getD, List.getElem?_eq_getElem hj]; rfl
      rw [← h5, List.getElem?_take_of_lt (by omega), Array.getElem?_toList] at this
      exact this
    rw [Nat.zero_add, cell_of_row W g j cur _ _ hg]
    exact e

/-! a cut's steps -/
theorem cut_end {c : UInt8} {l : List UInt8} {f : Nat} (h : ∀ j, f ≤ j → j < l.length → l.getD j 0 ≠ c) : cuts c (l.drop f) = [l.drop f] := by
  refine cuts_none fun hm => ?_
  obtain ⟨j, hj, e⟩ := List.getElem_of_mem hm
  rw [List.length_drop] at hj
  refine h (f + j) (by omega) (by omega) ?_
  rw [List.getD_eq_getElem?_getD, List.getElem?_eq_getElem (by omega)]
  rw [List.getElem_drop] at e
  exact e
theorem cut_mid {c : UInt8} {l : List UInt8} {f i : Nat} (hf : f ≤ i) (hi : i < l.length) (hc : l.getD i 0 = c) (h : ∀ j, f ≤ j → j < i → l.getD j 0 ≠ c) : cuts c (l.drop f) = (l.take i).drop f :: cuts c (l.drop (i + 1)) := by
  have e : l.drop f = (l.take i).drop f ++ c :: l.drop (i + 1) := by
    have e1 : l.drop i = c :: l.drop (i + 1) := by
      rw [List.drop_eq_getElem_cons hi]
      rw [List.getD_eq_getElem?_getD, List.getElem?_eq_getElem hi] at hc
      rw [show l[i] = c from hc]
    rw [← e1]
    conv => lhs; rw [← List.take_append_drop i l]
    rw [List.drop_append_of_le_length (by rw [List.length_take]; omega)]
  rw [e]
  refine cuts_hit fun hm => ?_
  obtain ⟨j, hj, e2⟩ := List.getElem_of_mem hm
  rw [List.length_drop, List.length_take] at hj
  refine h (f + j) (by omega) (by omega) ?_
  rw [List.getD_eq_getElem?_getD, List.getElem?_eq_getElem (by omega)]
  rw [List.getElem_drop, List.getElem_take] at e2
  exact e2
/-- what is known within a cut: the pieces that were cut, from where, how far -/
def CutI (c : UInt8) (s : ByteArray) (l : List ByteArray) (f i : Nat) : Prop :=
  l.length ≤ i ∧ ((f ≤ i ∧ i ≤ s.size ∧ cuts c s.data.toList = l.map (·.data.toList) ++ cuts c (s.data.toList.drop f) ∧ ∀ j, f ≤ j → j < i → byteAt s j ≠ c) ∨ (i = s.size + 1 ∧ l.map (·.data.toList) = cuts c s.data.toList))
theorem CutI.start (c : UInt8) (s : ByteArray) : CutI c s [] 0 0 := ⟨Nat.le_refl _, .inl ⟨Nat.le_refl _, Nat.zero_le _, by simp, fun j h1 h2 => by omega⟩⟩
theorem CutI.at_ {c : UInt8} {s : ByteArray} {l : List ByteArray} {f i : Nat} (h : CutI c s l f i) (hi : i ≤ s.size) : f ≤ i ∧ cuts c s.data.toList = l.map (·.data.toList) ++ cuts c (s.data.toList.drop f) ∧ ∀ j, f ≤ j → j < i → byteAt s j ≠ c := by
  rcases h.2 with ⟨h1, _, h3, h4⟩ | ⟨h1, _⟩
  · exact ⟨h1, h3, h4⟩
  · omega
theorem CutI.past {c : UInt8} {s : ByteArray} {l : List ByteArray} {f i : Nat} (h : CutI c s l f i) (hi : ¬ i ≤ s.size) : i = s.size + 1 ∧ l.map (·.data.toList) = cuts c s.data.toList := by
  rcases h.2 with ⟨_, h1, _⟩ | h1
  · omega
  · exact h1
theorem ext_data (s : ByteArray) (f i : Nat) : (s.extract f i).data.toList = (s.data.toList.take i).drop f := by
  rw [Lib.extract_data, List.drop_take]
theorem CutI.last {c : UInt8} {s : ByteArray} {l : List ByteArray} {f : Nat} (h : CutI c s l f s.size) : CutI c s (l ++ [s.extract f s.size]) (s.size + 1) (s.size + 1) := by
  obtain ⟨h1, h2, h3⟩ := h.at_ (Nat.le_refl _)
  have hl : s.data.toList.length = s.size := by simp
  refine ⟨by rw [List.length_append]; have := h.1; simp; omega, .inr ⟨rfl, ?_⟩⟩
  rw [h2, cut_end (fun j g1 g2 => h3 j g1 (by omega)), List.map_append]
  simp only [List.map_cons, List.map_nil]
  rw [ext_data, List.take_of_length_le (by omega)]
theorem CutI.hit {c : UInt8} {s : ByteArray} {l : List ByteArray} {f i : Nat} (h : CutI c s l f i) (hi : i < s.size) (hc : byteAt s i = c) : CutI c s (l ++ [s.extract f i]) (i + 1) (i + 1) := by
  obtain ⟨h1, h2, h3⟩ := h.at_ (Nat.le_of_lt hi)
  have hl : s.data.toList.length = s.size := by simp
  refine ⟨by rw [List.length_append]; have := h.1; simp; omega, .inl ⟨Nat.le_refl _, hi, ?_, fun j g1 g2 => by omega⟩⟩
  rw [h2, cut_mid h1 (by omega) hc h3, List.map_append]
  simp only [List.map_cons, List.map_nil]
  rw [ext_data]
  simp
theorem CutI.miss {c : UInt8} {s : ByteArray} {l : List ByteArray} {f i : Nat} (h : CutI c s l f i) (hi : i < s.size) (hc : byteAt s i ≠ c) : CutI c s l f (i + 1) := by
  obtain ⟨h1, h2, h3⟩ := h.at_ (Nat.le_of_lt hi)
  refine ⟨by have := h.1; omega, .inl ⟨by omega, hi, h2, fun j g1 g2 => ?_⟩⟩
  by_cases e : j < i
  · exact h3 j g1 e
  · obtain rfl : j = i := by omega
    exact hc

set_option maxRecDepth 100000 in
set_option maxHeartbeats 2000000 in
theorem refcut_any (s : ByteArray) (x : UInt8) (w : World) (hs : s.size < 4294967296) :
    Calls Tryd.prog 41 #[.string s, .int .u8 (x.toNat : Int)] w fun e w' => Below w.heap.size w w' ∧ ∃ A c ss, e = .returned (.slice A ss.length c) ∧ Strs w' w'.heap.size A ss ∧ ss.length ≤ c ∧ c ≤ 9223372036854775807 ∧ ss.map (·.data.toList) = cuts x s.data.toList ∧ ss.length ≤ s.size + 1 := by
  obtain ⟨i0, hi, hi2⟩ := Option.map_eq_some_iff.1 info_str
  obtain ⟨hz0, hz1, hz2⟩ : i0.zero = some (.string ⟨#[]⟩) ∧ i0.size = 1 ∧ i0.bytes = 16 := by
    injection hi2 with h1 h2; injection h2 with h2 h3; exact ⟨h1, h2, h3⟩
  replace hi := Lib.hid hi
  replace hz0 := Lib.hid hz0
  replace hz1 := Lib.hid hz1
  replace hz2 := Lib.hid hz2
  clear hi2
  go_enter Tryd.func41, Tryd.ntmps41
  go_wp2_with fail
  go_loopw [5, 6, 7] (fun v fv iv wr => ∃ (l : List ByteArray) (f i : Nat), i ≤ s.size + 1 ∧ fv = .int .i64 f ∧ iv = .int .i64 i ∧ Hid (CutI x s l f i) ∧ Hid (wr.ownsRow w.heap.size 9 1 v l.length (l.map Value.string)) ∧ Hid (Below w.heap.size w wr)) (fun _ _ iv _ => s.size + 1 - (intOf iv).toNat)
  case atStart => exact ⟨[], 0, 0, Nat.zero_le _, rfl, rfl, CutI.start x s, World.ownsRow_nil _ _ _ _, Below.refl _ _⟩
  case round =>
    obtain ⟨l, f, i, hisz, rfl, rfl, hC, hown, hB⟩ := hrel
    by_cases hi1 : i ≤ s.size
    · have hfi := (hC.out.at_ hi1).1
      have hll : l.length ≤ i := hC.out.1
      have hfs : f ≤ s.size := by omega
      by_cases hlt : i < s.size
      · have hb := byte_get s i hlt
        have hne : ((i : Int) == (s.size : Int)) = false := by rw [beq_eq_false_iff_ne]; omega
        by_cases hc : byteAt s i = x
        · have hC2 := Lib.hid (hC.out.hit hlt hc)
          have heq : ((s[i].toNat : Int) == (x.toNat : Int)) = true := by rw [beq_iff_eq, ← hb, hc]
          have hbd : Below wr.heap.size wr (wr.alloc (.cells #[.string (s.extract f i)] 9)) := later_alloc _ _
          have hown1 := Lib.hid (own_later hown.out hbd)
          have hb9 : Hid (Below w.heap.size w (wr.alloc (.cells #[.string (s.extract f i)] 9))) := hB.out.trans (hbd.mono hB.out.size)
          have hcell : Hid ((wr.alloc (.cells #[.string (s.extract f i)] 9)).cell? ⟨wr.heap.size, 0, none⟩ = some (.string (s.extract f i))) := (Boxed.new wr 9 (.string (s.extract f i))).cell
          clear hb hc hC hown hbd hB
          go_wp2_with (at_builtin; refine wpList_append_own _ rfl _ _ 22 rfl w.heap.size 9 i0 (.string ⟨#[]⟩) 1 16 Tryd.underlying22 hi.out hz0.out hz1.out hz2.out rfl (by decide) _ _ _ rfl hown1.out ⟨wr.heap.size, 0, none⟩ 1 1 [.string (s.extract f i)] rfl rfl ?c1 ?c2 ?c3 ?c4 ?c5 ?_)
          case c1 =>
            intro j u hj
            match j, hj with
            | 0, hj => cases hj; exact hcell.out
            | j + 1, hj => simp at hj
          case c2 =>
            intro u hu
            simp at hu
            subst hu; rfl
          case c3 => unfold maxLen; omega
          case c4 => omega
          case c5 => exact hb9.out.size
          · intro v'' w1 hown' hgrow _
            have hown2 : Hid (w1.ownsRow w.heap.size 9 1 v'' (l ++ [(s.extract f i)]).length ((l ++ [(s.extract f i)]).map Value.string)) := by
              show w1.ownsRow _ _ _ _ _ _
              rw [List.map_append, List.length_append]
              exact hown'
            have hb3 : Hid (Below w.heap.size w w1) := by
              exact hb9.out.grown hgrow hb9.out.size (own_block hown1.out)
            clear hown' hgrow
            go_wp2_with fail
            go_roundw
            case rel => exact ⟨l ++ [(s.extract f i)], i + 1, i + 1, by omega, by go_num, by go_num, hC2, hown2, hb3⟩
            case measure => simp [intOf]; omega
        · have hC2 := Lib.hid (hC.out.miss hlt hc)
          have heq : ((s[i].toNat : Int) == (x.toNat : Int)) = false := by
            rw [beq_eq_false_iff_ne, ← hb]
            intro e
            exact hc (UInt8.toNat_inj.1 (by omega))
          clear hb hc hC
          go_wp2_with fail
          go_roundw
          case rel => exact ⟨l, f, i + 1, by omega, rfl, by go_num, hC2, hown, hB⟩
          case measure => simp [intOf]; omega
      · obtain rfl : i = s.size := by omega
        have hne : ((s.size : Int) == (s.size : Int)) = true := by simp
        have hC2 := Lib.hid hC.out.last
        have hbd : Below wr.heap.size wr (wr.alloc (.cells #[.string (s.extract f s.size)] 9)) := later_alloc _ _
        have hown1 := Lib.hid (own_later hown.out hbd)
        have hb9 : Hid (Below w.heap.size w (wr.alloc (.cells #[.string (s.extract f s.size)] 9))) := hB.out.trans (hbd.mono hB.out.size)
        have hcell : Hid ((wr.alloc (.cells #[.string (s.extract f s.size)] 9)).cell? ⟨wr.heap.size, 0, none⟩ = some (.string (s.extract f s.size))) := (Boxed.new wr 9 (.string (s.extract f s.size))).cell
        clear hC hown hbd hB
        go_wp2_with (at_builtin; refine wpList_append_own _ rfl _ _ 22 rfl w.heap.size 9 i0 (.string ⟨#[]⟩) 1 16 Tryd.underlying22 hi.out hz0.out hz1.out hz2.out rfl (by decide) _ _ _ rfl hown1.out ⟨wr.heap.size, 0, none⟩ 1 1 [.string (s.extract f s.size)] rfl rfl ?c1 ?c2 ?c3 ?c4 ?c5 ?_)
        case c1 =>
          intro j u hj
          match j, hj with
          | 0, hj => cases hj; exact hcell.out
          | j + 1, hj => simp at hj
        case c2 =>
          intro u hu
          simp at hu
          subst hu; rfl
        case c3 => unfold maxLen; omega
        case c4 => omega
        case c5 => exact hb9.out.size
        · intro v'' w1 hown' hgrow _
          have hown2 : Hid (w1.ownsRow w.heap.size 9 1 v'' (l ++ [(s.extract f s.size)]).length ((l ++ [(s.extract f s.size)]).map Value.string)) := by
            show w1.ownsRow _ _ _ _ _ _
            rw [List.map_append, List.length_append]
            exact hown'
          have hb3 : Hid (Below w.heap.size w w1) := by
            exact hb9.out.grown hgrow hb9.out.size (own_block hown1.out)
          clear hown' hgrow
          go_wp2_with fail
          go_roundw
          case rel => exact ⟨l ++ [(s.extract f s.size)], s.size + 1, s.size + 1, by omega, by go_num, by go_num, hC2, hown2, hb3⟩
          case measure => simp [intOf]
    · obtain ⟨h9, h10⟩ := hC.out.past hi1
      have hlen : l.length ≤ s.size + 1 := by have := hC.out.1; omega
      obtain ⟨A, c, rfl, hS, g1, g2⟩ := strs_own hown.out
      replace hS := Lib.hid hS
      replace h10 := Lib.hid h10
      clear hown hC
      go_wp2_with fail
      go_ret
      exact ⟨hB.out, A, c, l, rfl, hS.out, g1, g2, h10.out, hlen⟩
end Go.Proofs.YtieamjpfmjkchaaDoor
