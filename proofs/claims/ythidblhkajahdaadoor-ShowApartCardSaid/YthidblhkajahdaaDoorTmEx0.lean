/-
  The statements' own small functions: of, num, two, texts, has. Conditions: what they are handed can be read.
-/
import Derived.Test.YthidblhkajahdaaDoorTmSame
import Derived.Maps.OwnIn
import Derived.Maps.AppendAt
namespace Go.Proofs.YthidblhkajahdaaDoor
open Go.RowKit Go.Shelf Go.Tm Go.Maps
attribute [local go_sem] Oper.semAt_some

abbrev Tn := Go.Tm.T.node
theorem TmV.later {W W' : World} {t : Go.Tm.T} {A : Option Addr} {c : Nat} (h : TmV W (· < W.heap.size) t A c) (hb : Below W.heap.size W W') : TmV W' (· < W'.heap.size) t A c :=
  h.kept (fun b hb2 => by have := hb.size; have h3 : b < W.heap.size := hb2; show b < _; omega) (fun b hb2 => hb.block b hb2)
theorem TmV.leaf (W : World) (p : Nat → Prop) {k n : Int} {s : ByteArray} (hs : s.size ≤ 9223372036854775807) : TmV W p (.node k s n []) none 0 := ⟨hs, .inl rfl⟩
/-- the cells of kids, one behind another -/
def tmC (x : Go.Tm.T × Option Addr × Nat) : List Value := [.int .i64 x.1.kind, .string x.1.name, .int .i64 x.1.num, .slice x.2.1 x.1.kids.length x.2.2]
theorem row_new {W : World} {p : Nat → Prop} {b : Nat} (hb : p b) : ∀ (xs : List (Go.Tm.T × Option Addr × Nat)) (o : Nat), (∀ x ∈ xs, TmV W p x.1 x.2.1 x.2.2) → (∀ i v, (xs.flatMap tmC)[i]? = some v → W.cell? ⟨b, o + i, none⟩ = some v) → RowAt W p b o (xs.map (·.1))
  | [], o, _, _ => by rw [List.map_nil, RowAt]; trivial
  | x :: xs, o, hT, hc => by
    rw [List.map_cons, RowAt]
    have hx := hT x (by simp)
    refine ⟨?_, row_new hb xs (o + 4) (fun y hy => hT y (by simp [hy])) fun i v hv => ?_⟩
    · have h0 := hc 0 _ rfl
      have h1 := hc 1 _ rfl
      have h2 := hc 2 _ rfl
      have h3 := hc 3 _ rfl
      rw [T.eta x.1, NodeAt]
      exact ⟨hb, hx.nsz, h0, h1, h2, x.2.1, x.2.2, h3, hx.row⟩
    · have := hc (4 + i) v (by rw [List.flatMap_cons, List.getElem?_append_right (by simp [tmC])]; simpa [tmC] using hv)
      rwa [← Nat.add_assoc] at this

theorem of_any (s : ByteArray) (w : World) : Calls Tryd.prog 32 #[.string s] w fun e w' => e = .returned (.agg #[.int .i64 2, .string s, .int .i64 0, .slice none 0 0]) ∧ Below w.heap.size w w' := by
  go_enter Tryd.func32, Tryd.ntmps32
  go_wp2_with fail
  refine bodyPost_ret (v := .agg #[.int .i64 2, .string s, .int .i64 0, .slice none 0 0]) ?_ rfl ⟨rfl, later_alloc w _⟩
  have hres : Tryd.f32.results = #[.cell 2 24] := by kernel_rfl
  simp only [results, hres]
  go_simp
theorem num_any (n : Int) (w : World) : Calls Tryd.prog 33 #[.int .i64 n] w fun e w' => e = .returned (.agg #[.int .i64 1, .string ⟨#[]⟩, .int .i64 n, .slice none 0 0]) ∧ Below w.heap.size w w' := by
  go_enter Tryd.func33, Tryd.ntmps33
  go_wp2_with fail
  refine bodyPost_ret (v := .agg #[.int .i64 1, .string ⟨#[]⟩, .int .i64 n, .slice none 0 0]) ?_ rfl ⟨rfl, later_alloc w _⟩
  have hres : Tryd.f33.results = #[.cell 2 24] := by kernel_rfl
  simp only [results, hres]
  go_simp
set_option maxHeartbeats 1000000 in
theorem two_p (p : Nat → Prop) (k : Int) (s : ByteArray) (a b : Go.Tm.T) (A B : Option Addr) (c d : Nat) (w : World) (hs : s.size ≤ 9223372036854775807) (hp : ∀ x, p x → x < w.heap.size) (ha : TmV w p a A c) (hb : TmV w p b B d) :
    Calls Tryd.prog 31 #[.int .i64 k, .string s, tmV a A c, tmV b B d] w fun e w' => ∃ g, e = .returned (.agg #[.int .i64 k, .string s, .int .i64 0, .slice (some ⟨g, 0, none⟩) 2 2]) ∧ Below w.heap.size w w' ∧ TmV w' (fun x => p x ∨ (w.heap.size ≤ x ∧ x < w'.heap.size)) (.node k s 0 [a, b]) (some ⟨g, 0, none⟩) 2 := by
  unfold tmV
  replace ha := Lib.hid ha
  replace hb := Lib.hid hb
  go_enter Tryd.func31, Tryd.ntmps31
  go_wp2_with fail
  have hres : Tryd.f31.results = #[.cell 8 24] := by kernel_rfl
  have hc := chain_below w [(.cells #[.int .i64 a.kind, .string a.name, .int .i64 a.num, .slice A a.kids.length c] 24), (.cells #[.int .i64 b.kind, .string b.name, .int .i64 b.num, .slice B b.kids.length d] 24), (.cells #[.int .i64 k, .string s, .int .i64 0, .slice (some ⟨w.heap.size + 1 + 1 + 1, 0, none⟩) 2 2] 24), (.cells #[.int .i64 a.kind, .string a.name, .int .i64 a.num, .slice A a.kids.length c, .int .i64 b.kind, .string b.name, .int .i64 b.num, .slice B b.kids.length d] 24)]
  have hg := chain_get w [(.cells #[.int .i64 a.kind, .string a.name, .int .i64 a.num, .slice A a.kids.length c] 24), (.cells #[.int .i64 b.kind, .string b.name, .int .i64 b.num, .slice B b.kids.length d] 24), (.cells #[.int .i64 k, .string s, .int .i64 0, .slice (some ⟨w.heap.size + 1 + 1 + 1, 0, none⟩) 2 2] 24), (.cells #[.int .i64 a.kind, .string a.name, .int .i64 a.num, .slice A a.kids.length c, .int .i64 b.kind, .string b.name, .int .i64 b.num, .slice B b.kids.length d] 24)] 3 _ rfl
  refine bodyPost_ret (v := .agg #[.int .i64 k, .string s, .int .i64 0, .slice (some ⟨w.heap.size + 1 + 1 + 1, 0, none⟩) 2 2]) ?_ rfl ⟨_, rfl, hc.1, ?_⟩
  · clear hc hg
    simp only [results, hres]
    go_simp
  · refine ⟨hs, .inr ⟨_, _, rfl, ?_⟩⟩
    have hb4 : w.heap.size + 3 < ([(.cells #[.int .i64 a.kind, .string a.name, .int .i64 a.num, .slice A a.kids.length c] 24), (.cells #[.int .i64 b.kind, .string b.name, .int .i64 b.num, .slice B b.kids.length d] 24), (.cells #[.int .i64 k, .string s, .int .i64 0, .slice (some ⟨w.heap.size + 1 + 1 + 1, 0, none⟩) 2 2] 24), (.cells #[.int .i64 a.kind, .string a.name, .int .i64 a.num, .slice A a.kids.length c, .int .i64 b.kind, .string b.name, .int .i64 b.num, .slice B b.kids.length d] 24)].foldl World.alloc w).heap.size := by rw [hc.2]; simp
    refine row_new (p := fun x => p x ∨ (w.heap.size ≤ x ∧ x < _)) (.inr ⟨by omega, hb4⟩) [(a, A, c), (b, B, d)] 0 (fun x hx => ?_) (fun i v hv => ?_)
    · rcases List.mem_cons.1 hx with rfl | hx
      · exact ha.out.kept (fun x hx => .inl hx) (fun x hx => hc.1.block x (hp x hx))
      · obtain rfl := List.mem_singleton.1 hx
        exact hb.out.kept (fun x hx => .inl hx) (fun x hx => hc.1.block x (hp x hx))
    · rw [Nat.zero_add]
      have h4 := cell_of_row _ (w.heap.size + 3) i _ _ _ hg
      rw [← hv]
      refine h4.trans ?_
      show (#[_, _, _, _, _, _, _, _] : Array Value)[i]? = _
      rw [← List.getElem?_toArray]; rfl
theorem two_any (k : Int) (s : ByteArray) (a b : Go.Tm.T) (A B : Option Addr) (c d : Nat) (w : World) (hs : s.size ≤ 9223372036854775807) (ha : TmV w (· < w.heap.size) a A c) (hb : TmV w (· < w.heap.size) b B d) :
    Calls Tryd.prog 31 #[.int .i64 k, .string s, tmV a A c, tmV b B d] w fun e w' => ∃ g, e = .returned (.agg #[.int .i64 k, .string s, .int .i64 0, .slice (some ⟨g, 0, none⟩) 2 2]) ∧ Below w.heap.size w w' ∧ TmV w' (· < w'.heap.size) (.node k s 0 [a, b]) (some ⟨g, 0, none⟩) 2 :=
  (two_p (· < w.heap.size) k s a b A B c d w hs (fun _ h => h) ha hb).mono fun e w' ⟨g, h1, h2, h3⟩ => ⟨g, h1, h2, h3.kept (fun x hx => by
    rcases hx with hx | hx
    · have := h2.size
      have h4 : x < w.heap.size := hx
      show x < _
      omega
    · exact hx.2) (fun _ _ => rfl)⟩
/-- texts behind a slice -/
def Txs (w : World) (A : Option Addr) (ss : List ByteArray) : Prop := ∀ j, j < ss.length → ∃ b off, A = some ⟨b, off, none⟩ ∧ b < w.heap.size ∧ w.cell? ⟨b, off + j, none⟩ = some (.string (ss.getD j ⟨#[]⟩))
theorem Txs.later {W W' : World} {A : Option Addr} {ss : List ByteArray} (h : Txs W A ss) (hb : Below W.heap.size W W') : Txs W' A ss := fun j hj => by
  obtain ⟨b, off, h1, h2, h3⟩ := h j hj
  exact ⟨b, off, h1, Nat.lt_of_lt_of_le h2 hb.size, (hb.cell (p := ⟨b, off + j, none⟩) h2).trans h3⟩
theorem txs_of_row {W : World} {base : Nat} {v : Value} {L : List ByteArray} (h : W.ownsRow base 9 1 v L.length (L.map .string)) : ∃ A c, v = .slice A L.length c ∧ Txs W A L := by
  obtain ⟨h1, ⟨rfl, h2⟩ | ⟨g, cap, cur, rfl, hb, hg, r1, r2, r3, r4⟩⟩ := h
  · rw [h2]
    exact ⟨none, 0, rfl, fun j hj => by omega⟩
  · refine ⟨_, _, rfl, fun j hj => ⟨g, 0, rfl, World.lt_of_get hg, ?_⟩⟩
    rw [Nat.zero_add, cell_of_row W g j _ _ _ hg]
    have h3 : (cur.toList.take (L.length * 1))[j]? = some (.string (L.getD j ⟨#[]⟩)) := by
      rw [r4, List.getElem?_map, List.getElem?_eq_getElem hj, List.getD_eq_getElem?_getD, List.getElem?_eq_getElem hj]; rfl
    rw [List.getElem?_take_of_lt (by omega), Array.getElem?_toList] at h3
    exact h3
theorem txs_box (W : World) (l : List ByteArray) (ty : TypeId) : Txs (W.alloc (.cells (l.map .string).toArray ty)) (some ⟨W.heap.size, 0, none⟩) l := fun j hj => by
  refine ⟨_, _, rfl, by simp, ?_⟩
  rw [Nat.zero_add, cell_of_row _ W.heap.size j _ _ _ (World.alloc_heap_new W _), List.getElem?_toArray, List.getElem?_map, List.getElem?_eq_getElem hj, List.getD_eq_getElem?_getD, List.getElem?_eq_getElem hj]; rfl
theorem bytes_eq {a b : ByteArray} : (a.toList == b.toList) = true ↔ a = b := by
  rw [beq_iff_eq, ByteArray.toList_eq, ByteArray.toList_eq]
  constructor
  · intro h
    have h3 : a.data = b.data := Array.toList_inj.1 h
    cases a; cases b; cases h3; rfl
  · rintro rfl; rfl

set_option maxRecDepth 100000 in
set_option maxHeartbeats 2000000 in
theorem texts_any (L M : List ByteArray) (A B : Option Addr) (c d : Nat) (w : World) (hA : Txs w A L) (hB : Txs w B M) (hl : L.length ≤ 4294967296) :
    Calls Tryd.prog 18 #[.slice A L.length c, .slice B M.length d] w fun e w' => e = .returned (.bool (decide (L = M))) ∧ Below w.heap.size w w' := by
  replace hA := Lib.hid hA
  replace hB := Lib.hid hB
  by_cases hlen : L.length = M.length
  case neg =>
    have hE : Hid (decide (L = M) = false) := decide_eq_false fun h => hlen (by rw [h])
    have h1 : ¬ (L.length : Int) = (M.length : Int) := by omega
    have h2 : ((L.length : Int) == (M.length : Int)) = false := by rw [beq_eq_false_iff_ne]; exact h1
    go_enter Tryd.func18, Tryd.ntmps18
    go_wp2_with fail
    go_ret
    exact ⟨ret_bool hE.out.symm, Below.refl _ _⟩
  case pos =>
    obtain ⟨n, hn⟩ : ∃ n, L.length = n := ⟨_, rfl⟩
    have hn2 : M.length = n := by omega
    rw [hn, hn2]
    rw [hn] at hl
    replace hn := Lib.hid hn
    replace hn2 := Lib.hid hn2
    clear hlen
    go_enter Tryd.func18, Tryd.ntmps18
    go_wp2_with fail
    go_loopw [5] (fun i wr => ∃ k : Nat, k ≤ n ∧ i = .int .i64 k ∧ Hid (L.take k = M.take k ∧ Below w.heap.size w wr)) (fun i _ => n - (intOf i).toNat)
    case atStart => exact ⟨0, Nat.zero_le _, rfl, by simp, Below.refl _ _⟩
    case round =>
      obtain ⟨k, hk, rfl, hR⟩ := hrel
      by_cases hlt : k < n
      · obtain ⟨b, off, rfl, hb, hc⟩ := (hA.out.later hR.out.2) k (by rw [hn.out]; exact hlt)
        obtain ⟨b2, off2, rfl, hb2, hc2⟩ := (hB.out.later hR.out.2) k (by rw [hn2.out]; exact hlt)
        have hLk : Hid (L.take (k + 1) = L.take k ++ [L.getD k ⟨#[]⟩]) := by
          show _ = _
          have h9 : k < L.length := by rw [hn.out]; exact hlt
          rw [List.take_add_one, List.getElem?_eq_getElem h9, List.getD_eq_getElem?_getD, List.getElem?_eq_getElem h9]; rfl
        have hMk : Hid (M.take (k + 1) = M.take k ++ [M.getD k ⟨#[]⟩]) := by
          show _ = _
          have h9 : k < M.length := by rw [hn2.out]; exact hlt
          rw [List.take_add_one, List.getElem?_eq_getElem h9, List.getD_eq_getElem?_getD, List.getElem?_eq_getElem h9]; rfl
        obtain ⟨q1, hq1⟩ : ∃ q, L.getD k ⟨#[]⟩ = q := ⟨_, rfl⟩
        obtain ⟨q2, hq2⟩ : ∃ q, M.getD k ⟨#[]⟩ = q := ⟨_, rfl⟩
        rw [hq1] at hc hLk
        rw [hq2] at hc2 hMk
        replace hq1 := Lib.hid hq1
        replace hq2 := Lib.hid hq2
        clear hb hb2
        cases hqq : (q1.toList == q2.toList) with
        | false =>
          have hne : ¬ q1 = q2 := fun h => by rw [bytes_eq.2 h] at hqq; cases hqq
          have hE : Hid (decide (L = M) = false) := decide_eq_false fun h => hne (by rw [← hq1.out, ← hq2.out, h])
          have d2 : decide (q1.toList = q2.toList) = false := by rw [decide_eq_false_iff_not]; exact fun h => by rw [h, beq_self_eq_true] at hqq; cases hqq
          have n2 : ¬ q1.toList = q2.toList := of_decide_eq_false d2
          clear hne
          go_wp2_with fail
          go_quiet (fail)
          all_goals go_wp2
          all_goals go_ret
          all_goals exact ⟨ret_bool hE.out.symm, belowN hR.out.2 _⟩
        | true =>
          have hqe := bytes_eq.1 hqq
          subst hqe
          have hR2 : Hid (∀ nq, L.take (k + 1) = M.take (k + 1) ∧ Below w.heap.size w (wr.drewN nq)) := fun nq => ⟨by rw [hLk.out, hMk.out, hR.out.1], belowN hR.out.2 nq⟩
          clear hqq
          go_wp2_with fail
          go_quiet (fail)
          all_goals go_wp2
          all_goals go_roundw
          case rel => exact ⟨k + 1, by omega, by go_num, hR2.out _⟩
          case measure => simp [intOf]; omega
      · obtain rfl : k = n := by omega
        have hE : Hid (decide (L = M) = true) := decide_eq_true (by
          have := hR.out.1
          rwa [← hn.out, List.take_length, hn.out, ← hn2.out, List.take_length] at this)
        go_wp2_with fail
        go_ret
        exact ⟨ret_bool hE.out.symm, hR.out.2⟩

/-- what has answers -/
def HasR (s : ByteArray) (L : List ByteArray) (w : World) (e : Ending) (w' : World) : Prop := ∃ r : Bool, e = .returned (.bool r) ∧ (r = true ↔ s ∈ L) ∧ Below w.heap.size w w'
end Go.Proofs.YthidblhkajahdaaDoor
