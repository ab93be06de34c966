/-
  lat.Print. Conditions: the lattice's slices can be read; the library's variables lie as laid.
-/
import Derived.Test.YtieamjpfmjkchaaDoorLtBytes
import Derived.Test.YtieamjpfmjkchaaDoorLtJoin
namespace Go.Proofs.YtieamjpfmjkchaaDoor
open Go.RowKit Go.Shelf Go.Lt
attribute [local go_sem] Oper.semAt_some

def bitSign (us : List Nat) (a b : Nat) : UInt8 := if (row us a).testBit b then 49 else 48
def lineL (us : List Nat) (n a : Nat) : List UInt8 := (List.range n).map (bitSign us a) ++ [10]
def bodyL (us : List Nat) (n : Nat) : Nat → List UInt8
  | 0 => []
  | k + 1 => bodyL us n k ++ lineL us n k
def joinL (ns : List ByteArray) : List UInt8 := Lib.join (ns.map (·.data.toList)) [32]
def hdrL (ns : List ByteArray) : List UInt8 := joinL ns ++ [10]
def printL (ns : List ByteArray) (us : List Nat) : List UInt8 := hdrL ns ++ bodyL us ns.length us.length
theorem lineL_length (us : List Nat) (n a : Nat) : (lineL us n a).length = n + 1 := by simp [lineL]
theorem bodyL_length (us : List Nat) (n : Nat) : ∀ k, (bodyL us n k).length = k * (n + 1)
  | 0 => by simp [bodyL]
  | k + 1 => by rw [bodyL, List.length_append, bodyL_length us n k, lineL_length, Nat.succ_mul]

theorem named_at {ns : List ByteArray} (h : namedB ns = true) {j : Nat} (hj : j < ns.length) : nameB (Lt.nm ns j) = true := by
  unfold namedB at h
  have := List.all_eq_true.1 h j (List.mem_range.2 hj)
  unfold namedAt at this
  rw [Bool.and_eq_true] at this
  exact this.1
theorem nameB_size {s : ByteArray} (h : nameB s = true) : 1 ≤ s.size ∧ s.size ≤ 16 := by
  unfold nameB at h
  simp only [Bool.and_eq_true, decide_eq_true_eq] at h
  exact ⟨h.1.1.1, h.1.1.2⟩
theorem join_length : ∀ (l : List (List UInt8)), (∀ x ∈ l, x.length ≤ 16) → (Lib.join l [32]).length ≤ l.length * 17
  | [], _ => by simp [Lib.join]
  | [x], h => by have := h x (by simp); simp [Lib.join]; omega
  | x :: y :: r, h => by
    have h1 := h x (by simp)
    have h2 := join_length (y :: r) (fun z hz => h z (List.mem_cons_of_mem _ hz))
    have e : Lib.join (x :: y :: r) [32] = x ++ [32] ++ Lib.join (y :: r) [32] := by simp [Lib.join]
    rw [e]
    simp only [List.length_append, List.length_cons, List.length_nil] at h2 ⊢
    omega
theorem hdr_length {ns : List ByteArray} (h : namedB ns = true) (hl : ns.length ≤ 64) : (hdrL ns).length ≤ 1089 := by
  unfold hdrL joinL
  have := join_length (ns.map (·.data.toList)) (fun x hx => by
    obtain ⟨s, hs, rfl⟩ := List.mem_map.1 hx
    obtain ⟨j, hj, rfl⟩ := List.getElem_of_mem hs
    have h1 := named_at h hj
    have h2 := (nameB_size h1).2
    have e : Lt.nm ns j = ns[j] := by
      unfold Lt.nm
      rw [List.getD_eq_getElem?_getD, List.getElem?_eq_getElem hj]; rfl
    rw [e] at h2
    simpa using h2)
  rw [List.length_map] at this
  rw [List.length_append]
  simp only [List.length_cons, List.length_nil]
  omega
theorem repeatL_one (c : UInt8) : ∀ n, Lib.repeatL [c] n = List.replicate n c
  | 0 => by simp [Lib.repeatL]
  | n + 1 => by
    have := repeatL_one c n
    simp [Lib.repeatL, List.replicate_succ] at this ⊢
    exact this

/-- the text behind the first k lines -/
def txt (ns : List ByteArray) (us : List Nat) (k : Nat) : List UInt8 := hdrL ns ++ bodyL us ns.length k
theorem txt_zero (ns : List ByteArray) (us : List Nat) : txt ns us 0 = hdrL ns := by simp [txt, bodyL]
theorem txt_succ (ns : List ByteArray) (us : List Nat) (k : Nat) : txt ns us (k + 1) = txt ns us k ++ lineL us ns.length k := by simp [txt, bodyL]
/-- a line with a one at the places that have come -/
def lineP (us : List Nat) (n k : Nat) (pre : List (PAt (row us k))) : List UInt8 := (List.range n).map (fun b => if b ∈ pre.map (·.1) then (49 : UInt8) else 48) ++ [10]
theorem lineP_nil (us : List Nat) (n k : Nat) : lineP us n k [] = List.replicate n 48 ++ [10] := by
  unfold lineP
  congr 1
  apply List.ext_getElem
  · simp
  · intro i h1 h2
    simp
theorem lineP_all {us : List Nat} {n k : Nat} {ys : List (PAt (row us k))} (hy : ys.map (·.1) = places (row us k)) (hn : n ≤ 64) : lineP us n k ys = lineL us n k := by
  unfold lineP lineL
  rw [hy]
  congr 1
  apply List.map_congr_left
  intro b hb
  have hb := List.mem_range.1 hb
  unfold bitSign
  by_cases h : (row us k).testBit b = true
  · rw [if_pos h, if_pos (show b ∈ places (row us k) from mem_upto.2 ⟨by omega, h⟩)]
  · rw [if_neg h, if_neg (fun (g : b ∈ places (row us k)) => h (mem_upto.1 g).2)]
theorem lineP_snoc {us : List Nat} {n k : Nat} (pre : List (PAt (row us k))) (x : PAt (row us k)) (hx : x.1 < n) : lineP us n k (pre ++ [x]) = (lineP us n k pre).set x.1 49 := by
  unfold lineP
  rw [List.set_append_left _ _ (by simpa using hx)]
  congr 1
  apply List.ext_getElem
  · simp
  · intro i h1 h2
    rw [List.getElem_set]
    simp only [List.getElem_map, List.getElem_range, List.map_append, List.mem_append]
    by_cases e : x.1 = i
    · subst e; simp
    · have : ¬ i = x.1 := fun h => e h.symm
      simp [e, this]
theorem lineP_length (us : List Nat) (n k : Nat) (pre : List (PAt (row us k))) : (lineP us n k pre).length = n + 1 := by simp [lineP]
theorem later_cell {w w1 w2 w3 : World} {p : Addr} {v : Value} (hg : w2.grownBy w3 none) (_hb : Below w.heap.size w w2) (h : w2.cell? p = some v) (_hp : p.block < w1.heap.size) : w3.cell? p = some v := by
  refine (World.cell?_of_block (w := w2) (hg.block p.block ?_ (by simp))).trans h
  rcases Nat.lt_or_ge p.block w2.heap.size with h1 | h1
  · exact h1
  · exfalso
    simp [World.cell?, Array.getElem?_eq_none h1] at h
theorem later_below {w w2 w3 : World} (hg : w2.grownBy w3 none) (hb : Below w.heap.size w w2) : Hid (Below w.heap.size w w3) := hb.grown hg hb.size (by simp)

set_option maxRecDepth 100000 in
set_option maxHeartbeats 400000 in
theorem print_any (A B : Option Addr) (ns : List ByteArray) (us : List Nat) (c d : Nat) (w : World) (hE : Env w) (hL : LatAt w A B c ns us) (hR : rightB ns us = true) :
    Calls Tryd.prog 31 #[.agg #[.slice A ns.length c, .slice B us.length d]] w fun e w' => e = .returned (.string ⟨(printL ns us).toArray⟩) ∧ Below w.heap.size w w' := by
  have hnl := hL.nlen
  have hul := hL.ulen
  have hb0 : Below w.heap.size w (w.alloc (.cells #[.slice A ns.length c, .slice B us.length d] 25)) := (Below.refl _ _).alloc (Nat.le_refl _) _
  have keyR' := right_any A B ns us c d _ (hE.later hb0) (hL.later hb0)
  rw [hR] at keyR'
  have keyR := Lib.hid keyR'
  clear keyR'
  obtain ⟨q1, q2, q3, q4, q5, _, _⟩ := right_parts hR
  have hu64 : us.length ≤ 64 := by omega
  have hhdr := hdr_length q4 q2
  have hin := within_in hL.w64 hu64 q5
  have hjl : (joinL ns).length ≤ 1088 := by
    have : (hdrL ns).length = (joinL ns).length + 1 := by simp [hdrL]
    omega
  have HIN := Lib.hid hin
  have Q3 := Lib.hid q3
  have Q4 := Lib.hid q4
  clear hin q3 q4 q5
  have hpost : ∀ w1, Below (w.alloc (.cells #[.slice A ns.length c, .slice B us.length d] 25)).heap.size (w.alloc (.cells #[.slice A ns.length c, .slice B us.length d] 25)) w1 →
      (w1.cell? ⟨w.heap.size, 0, none⟩ = some (.slice A ns.length c) ∧ w1.cell? ⟨w.heap.size, 1, none⟩ = some (.slice B us.length d)) ∧ w.heap.size < w1.heap.size ∧ Hid (Below w.heap.size w w1) := fun w1 hb1 => by
    have hx := box_two w (.slice A ns.length c) (.slice B us.length d) 25
    have hs := hb1.size
    simp only [World.size_alloc] at hs
    exact ⟨⟨(hb1.cell (p := ⟨w.heap.size, 0, none⟩) (by simp)).trans hx.1, (hb1.cell (p := ⟨w.heap.size, 1, none⟩) (by simp)).trans hx.2⟩, by omega, hb0.trans (hb1.mono (by simp))⟩
  have HP := Lib.hid hpost
  clear hpost hb0
  have keyJ' : ∀ W, Below w.heap.size w W → Calls Tryd.prog 57 #[.slice A ns.length c, .string ⟨#[32]⟩] W fun e w' => e = .returned (.string ⟨(joinL ns).toArray⟩) ∧ Hid (Below W.heap.size W w') := fun W hb => by
    have hn : ns ≠ [] := by intro e; rw [e] at q1; simp at q1
    obtain ⟨bk, off, rfl, hbk, hc⟩ := (hL.later hb).names hn
    exact Tryd.strings_Join bk off c ns ⟨#[32]⟩ W (fun j x hx => by
      have hj := (List.getElem?_eq_some_iff.1 hx).1
      rw [hc j hj]
      unfold Lt.nm
      rw [List.getD_eq_getElem?_getD, hx]; rfl) hbk (by omega) hL.ncap (by
        show (joinL ns).length ≤ _
        have : (hdrL ns).length = (joinL ns).length + 1 := by simp [hdrL]
        omega)
  have keyJ := Lib.hid keyJ'
  clear keyJ'
  have keyP' : ∀ W, Calls Tryd.prog 58 #[.string ⟨#[48]⟩, .int .i64 ns.length] W fun e w' => e = .returned (.string ⟨(List.replicate ns.length 48).toArray⟩) ∧ Hid (Below W.heap.size W w') := fun W => by
    have h := Tryd.strings_Repeat ⟨#[48]⟩ ns.length W (by omega) (by show 1 * ns.length ≤ _; omega)
    refine h.mono fun e w' ⟨h1, h2⟩ => ⟨?_, h2⟩
    rw [h1]
    have e1 : (⟨#[48]⟩ : ByteArray).data.toList = [48] := rfl
    rw [e1, repeatL_one]
  have keyP := Lib.hid keyP'
  clear keyP'
  refine (callsIn_wide (n := 6)).1 ?_
  refine callsIn_of_wp_marks Tryd.func31 rfl trivial ?_ rfl
  simp only [Tryd.ntmps31, List.size_toArray, List.length_cons, List.length_nil, Nat.reduceAdd, Nat.reduceSub, Array.replicate_succ, Array.replicate_zero, List.push_toArray, List.append_toArray, List.nil_append, List.cons_append]
  gi_wp2_with (first | (refine ⟨trivial, ?_⟩; gi_at_call 15; refine (callsIn_wide.2 keyR.out).mono ?_; rintro e w1 ⟨rfl, hb1⟩; obtain ⟨⟨x1, x2⟩, x3, x6⟩ := HP.out w1 hb1; clear hb1) | (refine ⟨trivial, ?_⟩; gi_at_call 57; refine (callsIn_wide.2 (keyJ.out w1 x6.out)).mono ?_; rintro e w2 ⟨rfl, hb2⟩; have y2 : w2.cell? ⟨w.heap.size, 1, none⟩ = some (.slice B us.length d) := (hb2.out.cell (p := ⟨w.heap.size, 1, none⟩) x3).trans x2; have y6 : Hid (Below w.heap.size w w2) := x6.out.trans (hb2.out.mono (by omega)); clear hb2) | (refine wpListIn_bytes_of _ rfl (.tmp 18) rfl _ rfl ?_; intro cap0 w3 hb3 hg3 hz3; have u2 := later_cell hg3 (p := ⟨w.heap.size, 1, none⟩) y6.out y2 x3; have u6 := later_below hg3 y6.out; have HG3 := Lib.hid hg3; have HB3 := Lib.hid hb3; have HZ3 := Lib.hid hz3; clear hg3 hb3 hz3))
  generalize hg0 : w2.heap.size = g0 at *
  have hT0 : BytesAt w3 w.heap.size g0 cap0 (hdrL ns) := by
    have h := HB3.out
    have e : (⟨(joinL ns).toArray⟩ ++ ⟨#[10]⟩ : ByteArray).data.toList = hdrL ns := by simp [hdrL]
    rw [e] at h
    exact { h with ge := by have := y6.out.size; omega }
  have hsz3 : w.heap.size + 1 ≤ w3.heap.size := by have := HZ3.out; have := y6.out.size; omega
  have HT0 := Lib.hid hT0
  clear hT0 HB3 HG3 HZ3 x1 x2 y2 hg0
  refine wpIn_loop (fun a wr => ∃ (k g cap : Nat) (Ds : List Nat) (u5 u6 u7 u8 u24 u25 u26 u27 u28 u29 u30 u31 u32 u33 u34 u35 u36 u37 u38 u39 u40 u41 u42 : Value), k ≤ us.length ∧ BytesAt wr w.heap.size g cap (txt ns us k) ∧ Marks (w.heap.size) Ds wr ∧ Below w.heap.size w wr ∧ w.heap.size + 1 ≤ wr.heap.size ∧
      a = { tmps := #[.agg #[.slice A ns.length c, .slice B us.length d], .pointer (some ⟨w.heap.size, 0, none⟩), .string ⟨#[]⟩, .int .i64 ns.length, .slice (some ⟨g, 0, none⟩) (txt ns us k).length cap, u5, u6, u7, u8, .agg #[.slice A ns.length c, .slice B us.length d], .bool true, .bool false, .pointer (some ⟨w.heap.size, 0, none⟩), .slice A ns.length c, .int .i64 ns.length, .pointer (some ⟨w.heap.size, 0, none⟩), .slice A ns.length c, .string ⟨(joinL ns).toArray⟩, .string (⟨(joinL ns).toArray⟩ ++ ⟨#[10]⟩), .slice (some ⟨g0, 0, none⟩) ((joinL ns).length + 1) cap0, .pointer (some ⟨w.heap.size, 1, none⟩), .slice B us.length d, .int .i64 us.length, .int .i64 (k : Nat), u24, u25, u26, u27, u28, u29, u30, u31, u32, u33, u34, u35, u36, u37, u38, u39, u40, u41, u42], defers := Ds.map rmark }) (fun a _ => us.length - (intOf (a.tmps.getD 23 undef)).toNat) ?atStart ?round
  case atStart =>
    refine ⟨0, g0, cap0, [], undef, undef, undef, undef, undef, undef, undef, undef, undef, undef, undef, undef, undef, undef, undef, undef, undef, undef, undef, undef, undef, undef, undef, Nat.zero_le _, by rw [txt_zero]; exact HT0.out, Marks.nil _ _, u6.out, by omega, ?_⟩
    rw [txt_zero, show (hdrL ns).length = (joinL ns).length + 1 by simp [hdrL]]
    rfl
  case round =>
    rintro _ wr ⟨k, g, cap, Ds, u5, u6, u7, u8, u24, u25, u26, u27, u28, u29, u30, u31, u32, u33, u34, u35, u36, u37, u38, u39, u40, u41, u42, hk, hT, hM, hB, hszr, rfl⟩
    have HT := Lib.hid hT
    clear hT
    by_cases hlt : k < us.length
    · obtain ⟨b, off, rfl, hb, hc⟩ := hL.words (by intro e; subst e; simp at hlt)
      have hck := (hB.cell (p := ⟨b, off + k, none⟩) hb).trans (hc k hlt)
      have hr := hL.w64 k
      clear hc
      gi_wp2_with (first | (refine ⟨trivial, ?_⟩; gi_at_call 58; refine (callsIn_wide.2 (keyP.out _)).mono ?_; rintro e W1 ⟨rfl, hr1⟩) | (refine wpListIn_bytes_of _ rfl (.tmp 29) rfl _ rfl ?_; intro cap1 W2 hc2 hg2 hz2; have HC2 := Lib.hid hc2; have HG2 := Lib.hid hg2; have HZ2 := Lib.hid hz2; clear hc2 hg2 hz2) | (refine ⟨trivial, ?_⟩; gi_at_call 59; refine (callsIn_wide.2 (places_any (row us k) _)).mono ?_; rintro e w' ⟨rfl, rfl⟩))
      have hT2 : BytesAt W2 w.heap.size g cap (txt ns us k) := (HT.out.kept hr1.out.size (hr1.out.block g HT.out.lt)).grown HG2.out (by simp)
      have hM2 : Marks w.heap.size Ds W2 := (hM.keep fun D hD => hr1.out.block D (hM.lt D hD)).keep fun D hD => HG2.out.block D (by have := hM.lt D hD; have := hr1.out.size; omega) (by simp)
      have hMlt0 : ∀ D ∈ Ds, D < wr.heap.size := hM.lt
      have hB2 : Below w.heap.size w W2 := (hB.trans (hr1.out.mono (by omega))).grown HG2.out (by have := hr1.out.size; omega) (by simp)
      have hne : g ≠ W1.heap.size := by have := HT.out.lt; have := hr1.out.size; omega
      have hl2 : BytesAt W2 w.heap.size W1.heap.size cap1 (lineP us ns.length k []) := by
        have h := HC2.out
        have e : (⟨Array.replicate ns.length 48⟩ ++ ⟨#[10]⟩ : ByteArray).data.toList = lineP us ns.length k [] := by rw [lineP_nil]; simp
        rw [e] at h
        exact { h with ge := by have := hr1.out.size; omega }
      have hz2 := HZ2.out
      have hr1s := hr1.out.size
      generalize hgl : W1.heap.size = gl at *
      generalize hm : W2.heap.size = m at *
      obtain ⟨W5, hW5⟩ : ∃ W5, (W2.alloc (.cells #[.slice (some ⟨gl, 0, none⟩) (ns.length + 1) cap1] 72)).alloc (.cells #[.int .u64 (row us k : Nat)] 50) = W5 := ⟨_, rfl⟩
      have hB5 : Below w.heap.size w W5 := by
        rw [← hW5]
        exact (hB2.alloc (by omega) _).alloc (by simp; omega) _
      have hsz5 : W5.heap.size = m + 2 := by rw [← hW5, ← hm]; simp
      have d0 : BytesAt W5 w.heap.size gl cap1 (lineP us ns.length k []) := by rw [← hW5]; exact (hl2.alloc _).alloc _
      have d1 : BytesAt W5 w.heap.size g cap (txt ns us k) := by rw [← hW5]; exact (hT2.alloc _).alloc _
      have d2 : Boxed W5 m 72 (.slice (some ⟨gl, 0, none⟩) (ns.length + 1) cap1) := by rw [← hW5, ← hm]; exact (Boxed.new W2 _ _).alloc _
      have d4 : Boxed W5 (m + 1) 50 (.int .u64 (row us k : Nat)) := by
        rw [← hW5, ← hm]
        have := Boxed.new (W2.alloc (.cells #[.slice (some ⟨gl, 0, none⟩) (ns.length + 1) cap1] 72)) 50 (.int .u64 (row us k : Nat))
        rw [World.size_alloc] at this
        exact this
      have hM5 : Marks w.heap.size Ds W5 := by rw [← hW5]; exact (hM2.others (KeepsOthers.alloc _ _)).others (KeepsOthers.alloc _ _)
      have hMlt : ∀ D ∈ Ds, D < m := fun D hD => by have := hMlt0 D hD; omega
      have h4 := hE.four
      have hE5 : Env W5 := hE.later hB5
      have hrin := HIN.out k hlt
      have hgm : gl < m := by omega
      have hcap1 : 0 < cap1 := by have := d0.len; rw [lineP_length] at this; omega
      have hcap : 0 < cap := by have := d1.len; have : (txt ns us k).length = (hdrL ns).length + (bodyL us ns.length k).length := by simp [txt]
                                have : (hdrL ns).length = (joinL ns).length + 1 := by simp [hdrL]
                                omega
      rw [hW5]
      have HD1 := Lib.hid d1
      clear hW5 hT2 hl2 HT HC2 HG2 HZ2 hr1 d1 hgl hz2 hm
      refine wpIn_rangeFunc_ownF rfl (by omega) (gf := 73) (lb := #[.pointer (some ⟨m + 1, 0, none⟩)]) rfl trivial (enters_of Tryd.func73 (by kernel_rfl) rfl)
        (it_stops 5 (m + 1) w.heap.size (by omega) (row us k) hr W5 (by omega) d4.cell hE5 h4) belowK_t (belowK_b (by omega)) (Below.refl _ _) (fun _ => rfl)
        (fun pre W => (BytesAt W w.heap.size gl cap1 (lineP us ns.length k pre) ∧ BytesAt W w.heap.size g cap (txt ns us k) ∧ Boxed W m 72 (.slice (some ⟨gl, 0, none⟩) (ns.length + 1) cap1)) ∧ (Marks w.heap.size Ds W ∧ Below w.heap.size w W))
        (fun _ _ _ => False)
        (OwnFrom.and (Own.from (fun s X Y row hs hg hr => ⟨hs.1.turn hcap1 hg hr, hs.2.1.turn hcap hg hr, hs.2.2.turn hg hr⟩) _) (OwnFrom.and (Marks.own (fun D hD => by have := hMlt D hD; omega)) (ownFrom_below (by omega) (by omega))))
        (fun _ _ _ _ _ hs _ _ => hs)
        ⟨⟨d0, HD1.out, d2⟩, hM5, hB5⟩
        (fun x => { tmps := #[.agg #[.slice A ns.length c, .slice (some ⟨b, off, none⟩) us.length d], .pointer (some ⟨w.heap.size, 0, none⟩), .string ⟨#[]⟩, .int .i64 ns.length, .slice (some ⟨g, 0, none⟩) (txt ns us k).length cap, u5, .int .u64 (row us k : Nat), .pointer (some ⟨m, 0, none⟩), .int .i64 ((x.1 : Nat) : Int), .agg #[.slice A ns.length c, .slice (some ⟨b, off, none⟩) us.length d], .bool true, .bool false, .pointer (some ⟨w.heap.size, 0, none⟩), .slice A ns.length c, .int .i64 ns.length, .pointer (some ⟨w.heap.size, 0, none⟩), .slice A ns.length c, .string ⟨(joinL ns).toArray⟩, .string (⟨(joinL ns).toArray⟩ ++ ⟨#[10]⟩), .slice (some ⟨g0, 0, none⟩) ((joinL ns).length + 1) cap0, .pointer (some ⟨w.heap.size, 1, none⟩), .slice (some ⟨b, off, none⟩) us.length d, .int .i64 us.length, .int .i64 (k : Nat), .bool true, .pointer (some ⟨b, off + k, none⟩), .int .u64 (row us k : Nat), .int .i64 ns.length, .string ⟨Array.replicate ns.length 48⟩, .string (⟨Array.replicate ns.length 48⟩ ++ ⟨#[10]⟩), .slice (some ⟨gl, 0, none⟩) (ns.length + 1) cap1, .int .u64 (row us k : Nat), .func (.func 73) #[] #[.pointer (some ⟨m + 1, 0, none⟩)], .int .i64 ((x.1 : Nat) : Int), u34, u35, u36, u37, u38, u39, u40, u41, u42], defers := [] }) ?assign ?body ?done ?stop
      case assign =>
        intro l x W K hK
        gi_wp2
        exact hK
      case body =>
        rintro l pre ⟨x, hx⟩ W ⟨⟨c0, c1, c2⟩, hM', hB'⟩ _
        have hxn : x < us.length := testBit_lt hrin hx
        have hxn2 : x < ns.length := by have := Q3.out; omega
        have hll := lineP_length us ns.length k pre
        have hxc := c0.cells x (by omega)
        have hxf := c0.free x (by have := c0.len; omega)
        have v2 := c2.cell
        have HH := Lib.hid (And.intro c0 c1)
        clear c0 c1 hll
        gi_wp2
        refine ⟨KeepsOthers.setCell _ _ _, (Below.refl _ W).setCell (p := ⟨gl, x, none⟩) (by have := HH.out.1.ge; simpa using this) _, ⟨?_, HH.out.2.other hne _, c2.kept (grownBy_setCell'' _ _ _ _) (by simp; omega)⟩, hM'.others (KeepsOthers.setCell _ _ _), hB'.setCell (p := ⟨gl, x, none⟩) (by have := HH.out.1.ge; simpa using this) _⟩
        rw [lineP_snoc pre ⟨x, hx⟩ hxn2]
        exact HH.out.1.set (by rw [lineP_length]; omega) 49
      case done =>
        rintro D ys W hD hys ⟨⟨c0, c1, c2⟩, hM', hB'⟩ hK
        rw [lineP_all hys q2] at c0
        have hMD : Marks w.heap.size (D :: Ds) W := hM'.cons (by omega) (fun E hE => by have := hMlt E hE; omega) hK
        have hMltD : ∀ E ∈ D :: Ds, E < W.heap.size := hMD.lt
        have hlen9 : (txt ns us k).length + (lineL us ns.length k).length ≤ 70368744177664 := by
          rw [txt, List.length_append, bodyL_length, lineL_length]
          have h1 : k * (ns.length + 1) ≤ 64 * 65 := Nat.mul_le_mul (by omega) (by omega)
          omega
        have hsz9 : w.heap.size ≤ W.heap.size := hB'.size
        have v2 := c2.cell
        have HTe := Lib.hid c1
        have HLe := Lib.hid c0
        clear c0 c1
        gi_wp2_with (first | (gi_at_builtin; refine wpListIn_append_bytes _ rfl (.tmp 37) (.tmp 38) rfl w.heap.size g cap w.heap.size gl cap1 (txt ns us k) (lineL us ns.length k) rfl (by rw [lineL_length]; rfl) HTe.out HLe.out hlen9 hsz9 ?_; intro g' cap' w9 hb9 hg9; have HB9 := Lib.hid hb9; have HG9 := Lib.hid hg9; clear hb9 hg9))
        have hT9 : BytesAt w9 w.heap.size g' cap' (txt ns us (k + 1)) := by rw [txt_succ]; exact HB9.out
        have hB9 : Below w.heap.size w w9 := hB'.grown HG9.out hB'.size (fun i e => by cases e; exact HTe.out.ge)
        have hM9 : Marks w.heap.size (D :: Ds) w9 := hMD.keep fun E hE => HG9.out.block E (hMltD E hE) (fun e => by
          cases e
          have h1 := (hMD.at_ _ hE).2
          have h2 := HTe.out.there 0 hcap
          simp only [World.cell?, h1] at h2
          cases h2)
        have hl9 : (txt ns us k).length + (lineL us ns.length k).length = (txt ns us (k + 1)).length := by rw [txt_succ, List.length_append]
        have hs9 : w.heap.size + 1 ≤ w9.heap.size := by have := HG9.out.size; have := (Array.getElem?_eq_some_iff.1 hK).1; omega
        rw [show ((k : Int) + 1) = ((k + 1 : Nat) : Int) from by omega, hl9]
        refine ⟨⟨k + 1, g', cap', D :: Ds, _, _, _, _, _, _, _, _, _, _, _, _, _, _, _, _, _, _, _, _, _, _, _, by omega, hT9, hM9, hB9, hs9, rfl⟩, ?_⟩
        simp [intOf]; omega
      case stop =>
        rintro D cc pre W _ _ h _
        exact h.elim
    · obtain rfl : k = us.length := by omega
      have hT := HT.out
      gi_wp2_with (first | (refine wpListIn_string_of _ rfl (.tmp 41) rfl g cap w.heap.size (txt ns us us.length) rfl hT ?_))
      refine leaves_marks Ds (base := w.heap.size) hM ?_
      have hr2 := takeAll_below Ds (n₀ := w.heap.size) (Nat.le_refl _) (by omega) hM hB
      generalize takeAll wr Ds = W9 at hr2 ⊢
      refine ⟨.string ⟨(txt ns us us.length).toArray⟩, ?_, rfl, hr2⟩
      simp [results, Tryd.f31, go_sem]

set_option maxHeartbeats 400000 in
theorem print_no (A B : Option Addr) (ns : List ByteArray) (us : List Nat) (c d : Nat) (w : World) (hE : Env w) (hL : LatAt w A B c ns us) (hR : rightB ns us = false) :
    Calls Tryd.prog 31 #[.agg #[.slice A ns.length c, .slice B us.length d]] w fun e w' => e = .returned (.string ⟨#[]⟩) ∧ Below w.heap.size w w' := by
  have hb0 : Below w.heap.size w (w.alloc (.cells #[.slice A ns.length c, .slice B us.length d] 25)) := (Below.refl _ _).alloc (Nat.le_refl _) _
  have keyR' := right_any A B ns us c d _ (hE.later hb0) (hL.later hb0)
  rw [hR] at keyR'
  have keyR := Lib.hid keyR'
  clear keyR' hR
  have HB0 := Lib.hid hb0
  clear hb0
  refine (callsIn_wide (n := 6)).1 ?_
  refine callsIn_of_wp_marks Tryd.func31 rfl trivial ?_ rfl
  simp only [Tryd.ntmps31, List.size_toArray, List.length_cons, List.length_nil, Nat.reduceAdd, Nat.reduceSub, Array.replicate_succ, Array.replicate_zero, List.push_toArray, List.append_toArray, List.nil_append, List.cons_append]
  gi_wp2_with (refine ⟨trivial, ?_⟩; gi_at_call 15; refine (callsIn_wide.2 keyR.out).mono ?_; rintro e w1 ⟨rfl, hb1⟩)
  refine leaves_marks [] (base := w.heap.size) (Marks.nil _ _) ?_
  exact ⟨_, results_tmp rfl _ _ _, rfl, HB0.out.trans (hb1.mono (by simp))⟩
end Go.Proofs.YtieamjpfmjkchaaDoor
