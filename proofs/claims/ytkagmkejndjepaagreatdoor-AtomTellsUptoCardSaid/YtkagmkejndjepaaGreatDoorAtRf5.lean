/-
  The document's own Texts. Condition: the names, the pairs can be read, at most 2^20 pairs, names of at most 2^20 bytes.
-/
import Derived.Test.YtkagmkejndjepaaGreatDoorAtRf4
import Derived.Test.YtkagmkejndjepaaGreatDoorAtTexts
namespace Go.At
/-- what is written of pairs -/
def accS (ns : List ByteArray) (l : List Pr) : ByteArray := ⟨(Lib.join ((l.map (pairT ns)).map (·.data.toList)) [44, 32]).toArray⟩
theorem ba_ext {a b : ByteArray} (h : a.data.toList = b.data.toList) : a = b := by
  cases a; cases b; simp at h; simp [h]
theorem acc_one (ns : List ByteArray) (p : Pr) : accS ns [p] = pairT ns p := ba_ext (by
  show (Lib.join [(pairT ns p).data.toList] [44, 32]).toArray.toList = _
  rw [Lib.join_one])
theorem acc_snoc (ns : List ByteArray) (l : List Pr) (p : Pr) (h : l ≠ []) : accS ns (l ++ [p]) = accS ns l ++ ⟨#[44, 32]⟩ ++ pairT ns p := ba_ext (by
  obtain ⟨q, r, rfl⟩ : ∃ q r, l = q :: r := by
    cases l with
    | nil => exact absurd rfl h
    | cons q r => exact ⟨q, r, rfl⟩
  simp only [accS, List.cons_append, List.map_cons, List.map_append, List.map_nil, Lib.join_cons, ByteArray.data_append, Array.toList_append, Lib.joinTail]
  simp)
end Go.At
namespace Go.Proofs.YtkagmkejndjepaaGreatDoor
open Go.RowKit Go.Shelf Go.At
attribute [local go_sem] Oper.semAt_some

theorem acc_len (ns : List ByteArray) (l : List Pr) (h6 : ∀ p ∈ l, I64 p.1 ∧ I64 p.2) (hl : l.length ≤ 1048576) (h : ∀ s ∈ ns, s.size ≤ 1048576) (k : Nat) : (accS ns (l.take k)).size ≤ 4398046511104 := by
  have := texts_len ns (l.take k) (fun p hp => h6 p (List.mem_of_mem_take hp)) (by rw [List.length_take]; omega) h
  unfold accS
  show (Lib.join _ _).toArray.size ≤ _
  rw [List.size_toArray]
  exact this

set_option maxRecDepth 100000 in
set_option maxHeartbeats 4000000 in
theorem refTexts_any (An A : Option Addr) (ns : List ByteArray) (cn : Nat) (l : List Pr) (c : Nat) (w : World) (hN : Strs w An ns) (hP : Prs w A l) (h6 : ∀ p ∈ l, I64 p.1 ∧ I64 p.2) (hl : l.length ≤ 1048576) (hM : ∀ s ∈ ns, s.size ≤ 1048576) :
    Calls Tryz.prog 31 #[.slice An ns.length cn, .slice A l.length c] w fun e w' => e = .returned (.string (textsT ns l)) ∧ Below w.heap.size w w' := by
  have hacc := acc_len ns l h6 hl hM
  have etx : textsT ns l = if l = [] then ⟨#[45]⟩ else accS ns l := rfl
  replace etx := Lib.hid etx
  obtain ⟨L, hL⟩ : ∃ L, Hid (l.length = L) := ⟨_, rfl⟩
  have hLl := hL.out
  rw [hLl] at hl ⊢
  clear hLl
  replace h6 := Lib.hid h6
  replace hM := Lib.hid hM
  replace hacc := Lib.hid hacc
  obtain ⟨NL, hNL⟩ : ∃ NL, ns.length = NL := ⟨_, rfl⟩
  have htx := fun (a : Int) (W : World) (h2 : Strs W An ns) (h3 : I64 a) => refText_any An ns cn a W h2 h3
  rw [hNL] at htx ⊢
  replace htx := Lib.hid htx
  replace hNL := Lib.hid hNL
  go_enter Tryz.func31, Tryz.ntmps31
  go_wp2_with fail
  go_loopw [5, 6] (fun v i wr => ∃ k : Nat, k ≤ L ∧ i = .int .i64 k ∧ v = .string (accS ns (l.take k)) ∧ Hid (Below w.heap.size w wr)) (fun _ i _ => L - (intOf i).toNat)
  case atStart => exact ⟨0, Nat.zero_le _, rfl, rfl, Below.refl _ _⟩
  case round =>
    obtain ⟨k, hk, rfl, rfl, hB⟩ := hrel
    by_cases hlt : k < L
    · have hkl : k < l.length := by rw [hL.out]; exact hlt
      obtain ⟨b, off, rfl, hb, hc⟩ := hP (by intro e; subst e; simp at hkl)
      obtain ⟨c0, c1⟩ := hc k hkl
      clear hc
      have htk := take_snoc l (0, 0) k hkl
      have h7 := h6.out (l.getD k (0, 0)) (by rw [List.getD_eq_getElem?_getD, List.getElem?_eq_getElem hkl]; exact List.getElem_mem _)
      generalize l.getD k (0, 0) = q at c0 c1 htk h7
      obtain ⟨x, y⟩ := q
      dsimp only at c0 c1 h7
      have hs1 := text_len ns x h7.1 hM.out
      have hs2 := text_len ns y h7.2 hM.out
      have h0 := hacc.out k
      have hkeep : Hid (∀ W, Below w.heap.size w W → W.cell? ⟨b, off + k * 2, none⟩ = some (.int .i64 x) ∧ W.cell? ⟨b, off + k * 2 + 1, none⟩ = some (.int .i64 y)) := fun W hW => ⟨(hW.cell (p := ⟨b, off + k * 2, none⟩) hb).trans c0, (hW.cell (p := ⟨b, off + k * 2 + 1, none⟩) hb).trans c1⟩
      have hpair : Hid (pairT ns (x, y) = textT ns x ++ mid ++ textT ns y) := rfl
      have kx := Lib.hid (fun (W : World) (hW : Below w.heap.size w W) => (htx.out x W (hN.later hW) h7.1).mono (R' := fun e w' => e = .returned (.string (textT ns x)) ∧ Below w.heap.size w w') fun e w' h => ⟨h.1, hW.trans (h.2.mono hW.size)⟩)
      have ky := Lib.hid (fun (W : World) (hW : Below w.heap.size w W) => (htx.out y W (hN.later hW) h7.2).mono (R' := fun e w' => e = .returned (.string (textT ns y)) ∧ Below w.heap.size w w') fun e w' h => ⟨h.1, hW.trans (h.2.mono hW.size)⟩)
      generalize textT ns x = s1 at kx hpair hs1
      generalize textT ns y = s2 at ky hpair hs2
      have kxy : Hid (∀ (a : Int) (s : ByteArray) (W : World), ((a = x ∧ s = s1) ∨ (a = y ∧ s = s2)) → Below w.heap.size w W → Calls Tryz.prog 29 #[.slice An NL cn, .int .i64 a] W fun e w' => e = .returned (.string s) ∧ Below w.heap.size w w') := fun a s W h hW => by
        rcases h with ⟨rfl, rfl⟩ | ⟨rfl, rfl⟩
        · exact kx.out W hW
        · exact ky.out W hW
      clear kx ky c0 c1
      by_cases hk0 : k = 0
      · have hd : decide (0 < k) = false := decide_eq_false (by omega)
        have hnew : Hid (accS ns (l.take (k + 1)) = accS ns (l.take k) ++ s1 ++ mid ++ s2) := by
          show _ = _
          rw [htk, hk0, List.take_zero, List.nil_append, acc_one, hpair.out]
          exact ba_ext (by simp [accS, Lib.join_nil, ByteArray.data_append])
        clear htk hpair
        generalize accS ns (l.take k) = S at hnew h0 ⊢
        replace hk0 := Lib.hid hk0
        have h0 : S.size ≤ 4398046511106 := by omega
        have hz1 : ¬ 9223372036854775807 < S.size + s1.size := by omega
        have hz2 : ¬ 9223372036854775807 < (S ++ s1).size + mid.size := by rw [ByteArray.size_append]; have : mid.size = 4 := rfl; omega
        have hz3 : ¬ 9223372036854775807 < (S ++ s1 ++ mid).size + s2.size := by rw [ByteArray.size_append, ByteArray.size_append]; have : mid.size = 4 := rfl; omega
        have hz2a : ¬ 9223372036854775807 < S.size + s1.size + 4 := by omega
        have hz3a : ¬ 9223372036854775807 < S.size + s1.size + 4 + s2.size := by omega
        have hmid : mid = ⟨#[32, 60, 61, 32]⟩ := rfl
        rw [hmid] at hz2 hz3 hnew
        have hO : Hid (Below w.heap.size w wr.drew) := hB.out.drew
        obtain ⟨q0, q1⟩ := hkeep.out wr hB.out
        clear hmid h0 hs1 hs2
        go_wp2_with fail
        go_region_held3 (fun W => W.cell? ⟨b, off + k * 2, none⟩ = some (.int .i64 x) ∧ W.cell? ⟨b, off + k * 2 + 1, none⟩ = some (.int .i64 y)) (first | exact hkeep.out _ hO.out) (first | (go_at_call 29; refine (kxy.out _ _ _ (by first | exact .inl ⟨rfl, rfl⟩ | exact .inr ⟨rfl, rfl⟩) hO.out).mono ?_; clear hO; rintro e w9 ⟨rfl, hb9⟩; have hO : Hid (Below w.heap.size w w9) := hb9; clear hb9))
        all_goals
          go_wp2_with fail
          go_roundw
          case rel => exact ⟨k + 1, by omega, by go_num, by rw [hnew.out], hO.out⟩
          case measure => simp [intOf]; omega
      · have hd : decide (0 < k) = true := decide_eq_true (by omega)
        have hnew : Hid (accS ns (l.take (k + 1)) = accS ns (l.take k) ++ ⟨#[44, 32]⟩ ++ s1 ++ mid ++ s2) := by
          show _ = _
          rw [htk, acc_snoc ns _ _ (by intro e; have := congrArg List.length e; rw [List.length_take, List.length_nil] at this; omega), hpair.out, ← ByteArray.append_assoc, ← ByteArray.append_assoc]
        clear htk hpair
        generalize accS ns (l.take k) = S0 at hnew h0 ⊢
        replace hk0 := Lib.hid hk0
        have hz0 : ¬ 9223372036854775807 < S0.size + (⟨#[44, 32]⟩ : ByteArray).size := by have : (⟨#[44, 32]⟩ : ByteArray).size = 2 := rfl; omega
        have h00 : (S0 ++ ⟨#[44, 32]⟩ : ByteArray).size ≤ 4398046511106 := by rw [ByteArray.size_append]; have : (⟨#[44, 32]⟩ : ByteArray).size = 2 := rfl; omega
        go_wp2_with fail
        obtain ⟨S, hS⟩ : ∃ S, (S0 ++ ⟨#[44, 32]⟩ : ByteArray) = S := ⟨_, rfl⟩
        rw [hS] at hnew h00 ⊢
        replace hS := Lib.hid hS
        have h0 : S.size ≤ 4398046511106 := h00
        clear h00
        have hz1 : ¬ 9223372036854775807 < S.size + s1.size := by omega
        have hz2 : ¬ 9223372036854775807 < (S ++ s1).size + mid.size := by rw [ByteArray.size_append]; have : mid.size = 4 := rfl; omega
        have hz3 : ¬ 9223372036854775807 < (S ++ s1 ++ mid).size + s2.size := by rw [ByteArray.size_append, ByteArray.size_append]; have : mid.size = 4 := rfl; omega
        have hz2a : ¬ 9223372036854775807 < S.size + s1.size + 4 := by omega
        have hz3a : ¬ 9223372036854775807 < S.size + s1.size + 4 + s2.size := by omega
        have hmid : mid = ⟨#[32, 60, 61, 32]⟩ := rfl
        rw [hmid] at hz2 hz3 hnew
        have hO : Hid (Below w.heap.size w wr.drew) := hB.out.drew
        obtain ⟨q0, q1⟩ := hkeep.out wr hB.out
        clear hmid h0 hs1 hs2
        go_wp2_with fail
        go_region_held3 (fun W => W.cell? ⟨b, off + k * 2, none⟩ = some (.int .i64 x) ∧ W.cell? ⟨b, off + k * 2 + 1, none⟩ = some (.int .i64 y)) (first | exact hkeep.out _ hO.out) (first | (go_at_call 29; refine (kxy.out _ _ _ (by first | exact .inl ⟨rfl, rfl⟩ | exact .inr ⟨rfl, rfl⟩) hO.out).mono ?_; clear hO; rintro e w9 ⟨rfl, hb9⟩; have hO : Hid (Below w.heap.size w w9) := hb9; clear hb9))
        all_goals
          go_wp2_with fail
          go_roundw
          case rel => exact ⟨k + 1, by omega, by go_num, by rw [hnew.out], hO.out⟩
          case measure => simp [intOf]; omega
    · obtain rfl : k = L := by omega
      have hta : l.take k = l := List.take_of_length_le (by rw [hL.out]; exact Nat.le_refl _)
      rw [hta]
      by_cases hz : l = []
      · have e1 : accS ns l = ⟨#[]⟩ := by rw [hz]; rfl
        have e2 : textsT ns l = ⟨#[45]⟩ := etx.out.trans (if_pos hz)
        rw [e1]
        clear e1
        go_wp2_with fail
        go_ret
        exact ⟨by rw [e2]; rfl, hB.out⟩
      · have e2 : textsT ns l = accS ns l := etx.out.trans (if_neg hz)
        have hsz : 0 < (accS ns l).size := by
          obtain ⟨q, r, rfl⟩ : ∃ q r, l = q :: r := by
            cases l with
            | nil => exact absurd rfl hz
            | cons q r => exact ⟨q, r, rfl⟩
          show 0 < (Lib.join _ _).toArray.size
          rw [List.size_toArray, List.map_cons, List.map_cons, Lib.join_cons, List.length_append]
          have : (pairT ns q).data.toList.length ≠ 0 := by
            unfold pairT
            simp [ByteArray.data_append, mid]
          omega
        generalize accS ns l = S at hsz e2 ⊢
        have n4 : S.toList.isEmpty = false := by
          rw [ByteArray.toList_eq]
          have hl9 : S.data.toList.length = S.size := by rw [Array.length_toList]; rfl
          cases hc : S.data.toList with
          | nil => rw [hc] at hl9; simp at hl9; omega
          | cons a r => rfl
        replace e2 := Lib.hid e2
        go_wp2_with fail
        go_ret
        exact ⟨by rw [e2.out]; rfl, hB.out⟩
end Go.Proofs.YtkagmkejndjepaaGreatDoor
