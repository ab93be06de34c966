/-
  Texts: pairs as a text. Condition: the pairs and the names can be read, at most 2^20 of both, no name beyond 2^20 bytes.
-/
import Derived.Test.YtkagmkejndjepaaGreatDoorAtText
import Derived.Test.YtkagmkejndjepaaGreatDoorAtTurn
namespace Go.At
def mid : ByteArray := ⟨#[32, 60, 61, 32]⟩
/-- a pair as a text -/
def pairT (ns : List ByteArray) (p : Pr) : ByteArray := textT ns p.1 ++ mid ++ textT ns p.2
/-- pairs as a text -/
def textsT (ns : List ByteArray) (l : List Pr) : ByteArray := if l = [] then ⟨#[45]⟩ else ⟨(Lib.join ((l.map (pairT ns)).map (·.data.toList)) [44, 32]).toArray⟩
end Go.At
namespace Go.Proofs.YtkagmkejndjepaaGreatDoor
open Go.RowKit Go.Shelf Go.At
attribute [local go_sem] Oper.semAt_some

theorem infoStr : (Tryz.prog.info? 9).map (fun i => (i.zero, i.size, i.bytes)) = some (some (.string ⟨#[]⟩), 1, 16) := by kernel_rfl
/-- a row of L texts, the first of which are told -/
def SMade (W : World) (g L : Nat) (m : List ByteArray) : Prop := ∃ cur : Array Value, W.heap[g]? = some (.cells cur 9 (0, 0)) ∧ cur.size = L ∧ ∀ j, j < m.length → cur[j]? = some (.string (m.getD j ByteArray.empty))
theorem SMade.block {W W' : World} {g L : Nat} {m : List ByteArray} (h : SMade W g L m) (e : W'.heap[g]? = W.heap[g]?) : SMade W' g L m := by
  obtain ⟨cur, h1, h2⟩ := h
  exact ⟨cur, e.trans h1, h2⟩
theorem SMade.lt {W : World} {g L : Nat} {m : List ByteArray} (h : SMade W g L m) : g < W.heap.size := by
  obtain ⟨cur, h1, _⟩ := h
  exact World.lt_of_get h1
theorem SMade.old {W : World} {g L : Nat} {m : List ByteArray} (h : SMade W g L m) {k : Nat} (hk : k < L) : (∃ u, W.cell? ⟨g, k, none⟩ = some u) ∧ W.frozen? ⟨g, k, none⟩ = false := by
  obtain ⟨cur, h1, h2, _⟩ := h
  exact ⟨⟨cur[k]'(by omega), by simp [World.cell?, h1]⟩, by simp [World.frozen?, h1]⟩
theorem SMade.put {W : World} {g L : Nat} {m : List ByteArray} (h : SMade W g L m) (hk : m.length < L) (s : ByteArray) : SMade (W.setCell ⟨g, m.length, none⟩ (.string s)) g L (m ++ [s]) := by
  obtain ⟨cur, h1, h2, h3⟩ := h
  have e1 := heap_setCell_same W g m.length _ _ (.string s) h1
  refine ⟨_, e1, by simpa using h2, fun j hj => ?_⟩
  rw [List.length_append, List.length_singleton] at hj
  by_cases e : j = m.length
  · subst e
    rw [Array.getElem?_setIfInBounds, if_pos rfl, if_pos (by omega)]
    simp
  · rw [Array.getElem?_setIfInBounds, if_neg (by omega), h3 j (by omega), List.getD_eq_getElem?_getD, List.getD_eq_getElem?_getD, List.getElem?_append_left (by omega)]
theorem SMade.cell {W : World} {g L : Nat} {m : List ByteArray} (h : SMade W g L m) (j : Nat) (x : ByteArray) (hx : m[j]? = some x) : W.cell? ⟨g, 0 + j, none⟩ = some (.string x) := by
  obtain ⟨cur, h1, h2, h3⟩ := h
  have hj := (List.getElem?_eq_some_iff.1 hx).1
  have := h3 j hj
  rw [List.getD_eq_getElem?_getD, hx] at this
  rw [Nat.zero_add]
  simpa [World.cell?, h1] using this
theorem pair_len (ns : List ByteArray) (p : Pr) (hp : I64 p.1 ∧ I64 p.2) (h : ∀ s ∈ ns, s.size ≤ 1048576) : (pairT ns p).size ≤ 2097204 := by
  have h1 := text_len ns p.1 hp.1 h
  have h2 := text_len ns p.2 hp.2 h
  unfold pairT
  rw [ByteArray.size_append, ByteArray.size_append]
  have : mid.size = 4 := rfl
  omega
theorem lens_le {M : Nat} : ∀ xs : List (List UInt8), (∀ x ∈ xs, x.length ≤ M) → Lib.lens xs ≤ xs.length * M
  | [], _ => by simp [Lib.lens]
  | x :: r, h => by
    have h1 := lens_le r (fun y hy => h y (List.mem_cons_of_mem _ hy))
    have h2 := h x (List.mem_cons_self ..)
    have e : Lib.lens (x :: r) = x.length + Lib.lens r := by simp [Lib.lens]
    rw [e, List.length_cons, Nat.add_mul]
    omega
theorem texts_len (ns : List ByteArray) (l : List Pr) (h6 : ∀ p ∈ l, I64 p.1 ∧ I64 p.2) (hl : l.length ≤ 1048576) (h : ∀ s ∈ ns, s.size ≤ 1048576) : (Lib.join ((l.map (pairT ns)).map (·.data.toList)) [44, 32]).length ≤ 4398046511104 := by
  match l, h6, hl with
  | [], _, _ => simp [Lib.join]
  | p :: r, h6, hl =>
    rw [List.map_cons, List.map_cons, Lib.join_length]
    have h1 := lens_le (M := 2097204) (((p :: r).map (pairT ns)).map (·.data.toList)) (fun x hx => by
      simp only [List.map_map, List.mem_map, Function.comp_apply] at hx
      obtain ⟨q, hq, rfl⟩ := hx
      have := pair_len ns q (h6 q hq) h
      simpa using this)
    rw [List.map_cons, List.map_cons] at h1
    simp only [List.length_cons, List.length_map, List.length_nil] at h1 hl ⊢
    omega

set_option maxRecDepth 100000 in
set_option maxHeartbeats 4000000 in
theorem texts_any (An A : Option Addr) (ns : List ByteArray) (cn : Nat) (l : List Pr) (c : Nat) (w : World) (hE : Env w) (hN : Strs w An ns) (hP : Prs w A l) (h6 : ∀ p ∈ l, I64 p.1 ∧ I64 p.2) (hl : l.length ≤ 1048576) (hM : ∀ s ∈ ns, s.size ≤ 1048576) :
    Calls Tryz.prog 30 #[.slice An ns.length cn, .slice A l.length c] w fun e w' => e = .returned (.string (textsT ns l)) ∧ Below w.heap.size w w' := by
  by_cases hz : l = []
  · subst hz
    have e : textsT ns [] = ⟨#[45]⟩ := rfl
    rw [e]
    clear hP h6 hl
    generalize ns.length = L
    show Calls Tryz.prog 30 #[.slice An L cn, .slice A 0 c] w _
    go_enter Tryz.func30, Tryz.ntmps30
    go_wp2
    go_ret
    exact ⟨rfl, Below.refl _ _⟩
  · obtain ⟨i0, hi, hi2⟩ := Option.map_eq_some_iff.1 infoStr
    obtain ⟨hz0, hz1, hz2⟩ : i0.zero = some (.string ⟨#[]⟩) ∧ i0.size = 1 ∧ i0.bytes = 16 := by
      injection hi2 with h1 h2; injection h2 with h2 h3; exact ⟨h1, h2, h3⟩
    have hby : i0.bytes * l.length ≤ 281474976710656 := by rw [hz2]; omega
    have hmx : l.length ≤ maxLen := by unfold maxLen; omega
    have htl := texts_len ns l h6 hl hM
    have hpos : 0 < l.length := List.length_pos_iff.2 hz
    have etx : textsT ns l = ⟨(Lib.join ((l.map (pairT ns)).map (·.data.toList)) [44, 32]).toArray⟩ := if_neg hz
    replace hi := Lib.hid hi
    replace hz0 := Lib.hid hz0
    replace hz1 := Lib.hid hz1
    replace hz2 := Lib.hid hz2
    clear hi2 hz
    obtain ⟨L, hL⟩ : ∃ L, Hid (l.length = L) := ⟨_, rfl⟩
    have hLl := hL.out
    rw [hLl] at hl hby hmx hpos ⊢
    clear hLl
    have hne : ((L : Int) == 0) = false := beq_eq_false_iff_ne.2 (by omega)
    have hne2 : (L : Int) ≠ 0 := by omega
    replace h6 := Lib.hid h6
    replace hM := Lib.hid hM
    replace hby := Lib.hid hby
    replace hmx := Lib.hid hmx
    replace htl := Lib.hid htl
    replace etx := Lib.hid etx
    obtain ⟨NL, hNL⟩ : ∃ NL, ns.length = NL := ⟨_, rfl⟩
    have htx := fun (a : Int) (W : World) (h1 : Env W) (h2 : Strs W An ns) (h3 : I64 a) => text_any An ns cn a W h1 h2 h3
    rw [hNL] at htx ⊢
    replace htx := Lib.hid htx
    replace hNL := Lib.hid hNL
    go_enter Tryz.func30, Tryz.ntmps30
    go_wp2_with (refine wpList_make_full _ rfl _ _ 25 rfl w.heap.size 9 i0 (.string ⟨#[]⟩) 1 Tryz.underlying25 hi.out hz0.out hz1.out .i64 .i64 _ _ L rfl rfl rfl rfl hby.out hmx.out (Nat.le_refl _) ?_)
    intro w1 ho hg1
    have hb1 : Hid (Below w.heap.size w w1) := (Below.refl _ _).grown hg1 (Nat.le_refl _) (fun k hk => by cases hk)
    have hM0 : Hid (SMade w1 w.heap.size L []) := by
      obtain ⟨x1, ⟨x2, _⟩ | ⟨g', cap', cur, x2, x3, x4, x5, x6, x7, x8⟩⟩ := ho
      · cases x2
      · injection x2 with y1 y2 y3
        injection y1 with y1
        injection y1 with y1
        subst y1; subst y3
        exact ⟨cur, x4, by simpa using x7, fun j hj => absurd hj (Nat.not_lt_zero j)⟩
    clear ho hg1
    go_wp2_with fail
    go_loopw [16] (fun i wr => ∃ k : Nat, k ≤ L ∧ i = .int .i64 k ∧ Hid (SMade wr w.heap.size L ((l.take k).map (pairT ns))) ∧ Hid (Below w.heap.size w wr)) (fun i _ => L - (intOf i).toNat)
    case atStart => exact ⟨0, Nat.zero_le _, rfl, hM0.out, hb1.out⟩
    case round =>
      clear hM0 hb1
      obtain ⟨k, hk, rfl, hS, hB⟩ := hrel
      by_cases hlt : k < L
      · have hkl : k < l.length := by rw [hL.out]; exact hlt
        obtain ⟨b, off, rfl, hb, hc⟩ := (hP.later hB.out) (by intro e; subst e; simp at hkl)
        obtain ⟨c0, c1⟩ := hc k hkl
        clear hc
        have htk := take_snoc l (0, 0) k hkl
        have h7 := h6.out (l.getD k (0, 0)) (by rw [List.getD_eq_getElem?_getD, List.getElem?_eq_getElem hkl]; exact List.getElem_mem _)
        have hlen : ((l.take k).map (pairT ns)).length = k := by simp; omega
        generalize l.getD k (0, 0) = q at c0 c1 htk h7
        obtain ⟨x, y⟩ := q
        dsimp only at c0 c1 h7
        have hmk : Hid ((l.take (k + 1)).map (pairT ns) = (l.take k).map (pairT ns) ++ [textT ns x ++ mid ++ textT ns y]) := by
          show _ = _
          rw [htk]; simp [pairT]
        clear htk
        go_wp2_with fail
        obtain ⟨V, hV⟩ : ∃ V, wr.alloc (.cells #[.int .i64 x, .int .i64 y] 53) = V := ⟨_, rfl⟩
        have hx := World.alloc_heap_new wr (.cells #[.int .i64 x, .int .i64 y] 53)
        have hVb := later_alloc wr (.cells #[.int .i64 x, .int .i64 y] 53)
        have hVs : V.heap.size = wr.heap.size + 1 := by rw [← hV]; simp
        rw [hV] at hx hVb ⊢
        replace hV := Lib.hid hV
        have hMV : SMade V w.heap.size L ((l.take k).map (pairT ns)) := hS.out.block (hVb.block _ hS.out.lt)
        have hBV : Hid (Below w.heap.size w V) := hB.out.trans (hVb.mono hB.out.size)
        have hnew : wr.heap.size ≠ w.heap.size := by have := hS.out.lt; omega
        have hgl : w.heap.size < V.heap.size := by have := hS.out.lt; omega
        have hs1 := text_len ns x h7.1 hM.out
        have hs2 := text_len ns y h7.2 hM.out
        have kx := Lib.hid (fun (W : World) (hW : Below V.heap.size V W) => (htx.out x W (hE.later (hBV.out.trans (hW.mono (by omega)))) (hN.later (hBV.out.trans (hW.mono (by omega)))) h7.1).mono (R' := fun e w' => e = .returned (.string (textT ns x)) ∧ Below V.heap.size V w') fun e w' h => ⟨h.1, hW.trans (h.2.mono hW.size)⟩)
        have ky := Lib.hid (fun (W : World) (hW : Below V.heap.size V W) => (htx.out y W (hE.later (hBV.out.trans (hW.mono (by omega)))) (hN.later (hBV.out.trans (hW.mono (by omega)))) h7.2).mono (R' := fun e w' => e = .returned (.string (textT ns y)) ∧ Below V.heap.size V w') fun e w' h => ⟨h.1, hW.trans (h.2.mono hW.size)⟩)
        have hbox : Hid (∀ W, Below V.heap.size V W → W.cell? ⟨wr.heap.size, 0, none⟩ = some (.int .i64 x) ∧ W.cell? ⟨wr.heap.size, 1, none⟩ = some (.int .i64 y)) := fun W hW =>
          ⟨(hW.cell (p := ⟨wr.heap.size, 0, none⟩) (by show wr.heap.size < V.heap.size; omega)).trans (cell_of_row _ _ 0 _ _ _ hx), (hW.cell (p := ⟨wr.heap.size, 1, none⟩) (by show wr.heap.size < V.heap.size; omega)).trans (cell_of_row _ _ 1 _ _ _ hx)⟩
        have hold : Hid (∀ W, Below V.heap.size V W → (∃ u, W.cell? ⟨w.heap.size, k, none⟩ = some u) ∧ W.frozen? ⟨w.heap.size, k, none⟩ = false) := fun W hW => (hMV.block (hW.block _ hgl)).old hlt
        have hS9 : Hid (∀ W v, Below V.heap.size V W → (W.setCell ⟨w.heap.size, k, none⟩ v).cell? ⟨wr.heap.size, 0, none⟩ = some (.int .i64 x) ∧ (W.setCell ⟨w.heap.size, k, none⟩ v).cell? ⟨wr.heap.size, 1, none⟩ = some (.int .i64 y)) := fun W v hW => by
          have e : (W.setCell ⟨w.heap.size, k, none⟩ v).heap[wr.heap.size]? = W.heap[wr.heap.size]? := Below.heap_setCell _ _ _ _ hnew
          exact ⟨(World.cell?_of_block (a := ⟨wr.heap.size, 0, none⟩) e).trans (hbox.out W hW).1, (World.cell?_of_block (a := ⟨wr.heap.size, 1, none⟩) e).trans (hbox.out W hW).2⟩
        have hend : Hid (∀ W, Below V.heap.size V W → SMade (W.setCell ⟨w.heap.size, k, none⟩ (.string (textT ns x ++ mid ++ textT ns y))) w.heap.size L ((l.take (k + 1)).map (pairT ns)) ∧ Below w.heap.size w (W.setCell ⟨w.heap.size, k, none⟩ (.string (textT ns x ++ mid ++ textT ns y)))) := fun W hW => by
          have h2 := (hMV.block (hW.block _ hgl)).put (by rw [hlen]; exact hlt) (textT ns x ++ mid ++ textT ns y)
          rw [hlen] at h2
          rw [hmk.out]
          exact ⟨h2, (hBV.out.trans (hW.mono (by omega))).setCell (p := ⟨w.heap.size, k, none⟩) (Nat.le_refl _) _⟩
        clear hmk
        generalize textT ns x = s1 at kx hend hs1
        generalize textT ns y = s2 at ky hend hs2
        have kxy : Hid (∀ (a : Int) (s : ByteArray) (W : World), ((a = x ∧ s = s1) ∨ (a = y ∧ s = s2)) → Below V.heap.size V W → Calls Tryz.prog 28 #[.slice An NL cn, .int .i64 a] W fun e w' => e = .returned (.string s) ∧ Below V.heap.size V w') := fun a s W h hW => by
          rcases h with ⟨rfl, rfl⟩ | ⟨rfl, rfl⟩
          · exact kx.out W hW
          · exact ky.out W hW
        clear kx ky
        have hz1' : ¬ 9223372036854775807 < s1.size + mid.size := by have : mid.size = 4 := rfl; omega
        have hz2' : ¬ 9223372036854775807 < (s1 ++ mid).size + s2.size := by rw [ByteArray.size_append]; have : mid.size = 4 := rfl; omega
        have hz1a : ¬ 9223372036854775807 < s1.size + 4 := by omega
        have hz2a : ¬ 9223372036854775807 < s1.size + 4 + s2.size := by omega
        have hO : Hid (Below V.heap.size V V.drew) := (Below.refl _ _).drew
        obtain ⟨q0, q1⟩ := hbox.out V (Below.refl _ _)
        have hmid : mid = ⟨#[32, 60, 61, 32]⟩ := rfl
        rw [hmid] at hz1' hz2' hend
        clear hmid hx hVb c0 c1 hS hB hMV hVs hs1 hs2
        go_wp2_with fail
        go_region_held3 (fun W => W.cell? ⟨wr.heap.size, 0, none⟩ = some (.int .i64 x) ∧ W.cell? ⟨wr.heap.size, 1, none⟩ = some (.int .i64 y)) (first | exact hbox.out _ hO.out | exact hS9.out _ _ hO.out) (first | (go_at_call 28; refine (kxy.out _ _ _ (by first | exact .inl ⟨rfl, rfl⟩ | exact .inr ⟨rfl, rfl⟩) hO.out).mono ?_; clear hO; rintro e w9 ⟨rfl, hb9⟩; obtain ⟨⟨u9, o9⟩, f9⟩ := hold.out _ hb9; have hO : Hid (Below V.heap.size V w9) := hb9; clear hb9))
        all_goals
          go_wp2_with fail
          go_roundw
          case rel => exact ⟨k + 1, by omega, by go_num, (hend.out _ hO.out).1, (hend.out _ hO.out).2⟩
          case measure => simp [intOf]; omega
      · obtain rfl : k = L := by omega
        have h9 := hS.out
        rw [List.take_of_length_le (by rw [hL.out]; exact Nat.le_refl _)] at h9
        have kj := Tryz.strings_Join w.heap.size 0 k (l.map (pairT ns)) ⟨#[44, 32]⟩ wr h9.cell h9.lt (by rw [List.length_map, hL.out]; omega) (by rw [List.length_map, hL.out]; exact Nat.le_refl _) (by
          have := htl.out
          refine Nat.le_trans this (by decide))
        rw [show (l.map (pairT ns)).length = k by rw [List.length_map, hL.out]] at kj
        have e9 : (⟨(Lib.join ((l.map (pairT ns)).map (·.data.toList)) ((⟨#[44, 32]⟩ : ByteArray).data.toList)).toArray⟩ : ByteArray) = textsT ns l := etx.out.symm
        rw [e9] at kj
        obtain ⟨r, hr⟩ : ∃ r, textsT ns l = r := ⟨_, rfl⟩
        rw [hr] at kj
        replace hr := Lib.hid hr
        replace kj := Lib.hid kj
        clear h9 e9 etx htl hS
        go_wp2_with (go_at_call 54; refine kj.out.mono ?_; rintro e w2 ⟨rfl, hb2⟩; replace hb2 := Lib.hid hb2)
        go_ret
        exact ⟨by rw [hr.out]; rfl, hB.out.trans (hb2.out.mono hB.out.size)⟩
end Go.Proofs.YtkagmkejndjepaaGreatDoor
