/-
  ParseDeep's walk: true of whatever number. Conditions: the variables that are read lie as laid; what comes in can be read.
-/
import Derived.Test.YtpdombmpmhnolaaGreatDoorPaPr
namespace Go.Proofs.YtpdombmpmhnolaaGreatDoor.Pa
open Go.RowKit Go.Shelf Go.Tm Go.Lx Go.Maps
attribute [local go_sem] Oper.semAt_some

/-- a sign so many times -/
def rp (c : UInt8) (k : Nat) : ByteArray := ⟨(List.replicate k c).toArray⟩
theorem rp_size (c : UInt8) (k : Nat) : (rp c k).size = k := by show (List.replicate k c).toArray.size = k; simp
theorem rp_succ (c : UInt8) (k : Nat) : rp c k ++ ⟨#[c]⟩ = rp c (k + 1) := by
  apply ByteArray.ext
  rw [ByteArray.data_append]
  show (List.replicate k c).toArray ++ [c].toArray = (List.replicate (k + 1) c).toArray
  rw [List.append_toArray, List.replicate_succ']
theorem rp_list (c : UInt8) (k : Nat) : (rp c k).data.toList = List.replicate k c := by simp [rp]
theorem deep_1 (M : Nat) : ((rp 40 M ++ ⟨#[55]⟩) ++ rp 41 M).data.toList = List.replicate M 40 ++ (55 :: List.replicate M 41) := by
  rw [ByteArray.data_append, ByteArray.data_append, Array.toList_append, Array.toList_append, rp_list, rp_list, List.append_assoc]; rfl
theorem deep_2 (M : Nat) : (rp 33 M ++ ⟨#[55]⟩).data.toList = List.replicate M 33 ++ [55] := by
  rw [ByteArray.data_append, Array.toList_append, rp_list]
theorem size_1 (M : Nat) : ((rp 40 M ++ ⟨#[55]⟩) ++ rp 41 M).size = M + 1 + M := by
  rw [ByteArray.size_append, ByteArray.size_append, rp_size, rp_size]; rfl
theorem size_2 (M : Nat) : (rp 33 M ++ ⟨#[55]⟩).size = M + 1 := by
  rw [ByteArray.size_append, rp_size]; rfl
theorem deep_told {M : Nat} (hM : M ≤ 206) {t : Go.Tm.T} {n : Nat} (h : Told (parN M [dTok 7]) t n) : ToldS ((rp 40 M ++ ⟨#[55]⟩) ++ rp 41 M) t n := .inr (.inr ⟨_, by rw [size_1]; omega, by rw [deep_1]; exact lex_parN M, h⟩)
theorem gets_told {M : Nat} (hM : M ≤ 206) {t : Go.Tm.T} {n : Nat} (h : Told (getL M) t n) : ToldS (rp 33 M ++ ⟨#[55]⟩) t n := .inr (.inr ⟨_, by rw [size_2]; omega, by rw [deep_2]; exact lex_getL M, h⟩)

set_option maxRecDepth 100000 in
set_option maxHeartbeats 4000000 in
theorem parseDeep_any (a : Int) (w : World) (hE : EnvP w) (h0 : 0 ≤ a) (h1 : a < 256) :
    Calls Tryz.prog 9 #[.int .u8 a] w fun e w' => e = .returned (.bool true) ∧ Below w.heap.size w w' := by
  have hX := Lib.hid (Bx.new hE)
  clear hE
  obtain ⟨M, hM⟩ : ∃ M : Nat, (195 : Int) + a % 12 = M := ⟨(195 + a % 12).toNat, by omega⟩
  have hMl : 195 ≤ M := by omega
  have hMu : M ≤ 206 := by omega
  have hr0 : 0 ≤ a % 12 := by omega
  have hr1 : a % 12 < 12 := by omega
  replace hM := Lib.hid hM
  go_enter Tryz.func9, Tryz.ntmps9
  go_wp2_with fail
  refine (examplesP_any _ hX.out.env).mono ?_
  rintro e w1 ⟨rfl, hb⟩
  replace hX := Lib.hid (hX.out.later hb)
  clear hb
  go_wp2_with fail
  rw [hM.out]
  go_loopw [5, 6, 7, 8] (fun s t u i wr => ∃ k : Nat, k ≤ M ∧ s = .string (rp 40 k) ∧ t = .string (rp 41 k) ∧ u = .string (rp 33 k) ∧ i = .int .i64 k ∧ Hid (Bx w [] wr)) (fun _ _ _ i _ => M - (intOf i).toNat)
  case atStart => exact ⟨0, Nat.zero_le _, rfl, rfl, rfl, rfl, hX.out⟩
  case round =>
    clear hX
    obtain ⟨k, hk, rfl, rfl, rfl, rfl, hX⟩ := hrel
    by_cases hlt : k < M
    · have e1 := Lib.hid (rp_succ 40 k)
      have e2 := Lib.hid (rp_succ 41 k)
      have e3 := Lib.hid (rp_succ 33 k)
      have z1 := rp_size 40 k
      have z2 := rp_size 41 k
      have z3 := rp_size 33 k
      have hlt2 : (k : Int) < (M : Int) := by omega
      go_wp2_with fail
      go_roundw
      case rel => exact ⟨k + 1, by omega, by rw [e1.out], by rw [e2.out], by rw [e3.out], by go_num, hX⟩
      case measure => simp [intOf]; omega
    · obtain rfl : M = k := by omega
      clear hlt hk
      have z1 := rp_size 40 M
      have z2 := rp_size 41 M
      have z3 := rp_size 33 M
      have hs1 := size_1 M
      have hs2 := size_2 M
      obtain ⟨S1, hS1⟩ : ∃ S, (rp 40 M ++ ⟨#[55]⟩) ++ rp 41 M = S := ⟨_, rfl⟩
      obtain ⟨S2, hS2⟩ : ∃ S, rp 33 M ++ ⟨#[55]⟩ = S := ⟨_, rfl⟩
      have kp := Lib.hid (fun (t : Go.Tm.T) (h : Told (parN M [dTok 7]) t 0) (W : World) (hE : EnvP W) => (hS1 ▸ parse_ok (deep_told hMu h) W hE (by rw [hs1]; omega) : Calls Tryz.prog 15 #[.string S1] W _))
      have kq := Lib.hid (fun (h : Told (parN M [dTok 7]) T0 1) (W : World) (hE : EnvP W) => (hS1 ▸ parse_no (deep_told hMu h) (by decide) W hE (by rw [hs1]; omega) : Calls Tryz.prog 15 #[.string S1] W _))
      have kr := Lib.hid (fun (t : Go.Tm.T) (h : Told (getL M) t 0) (W : World) (hE : EnvP W) => (hS2 ▸ parse_ok (gets_told hMu h) W hE (by rw [hs2]; omega) : Calls Tryz.prog 15 #[.string S2] W _))
      have ks := Lib.hid (fun (h : Told (getL M) T0 1) (W : World) (hE : EnvP W) => (hS2 ▸ parse_no (gets_told hMu h) (by decide) W hE (by rw [hs2]; omega) : Calls Tryz.prog 15 #[.string S2] W _))
      replace hS1 := Lib.hid hS1
      replace hS2 := Lib.hid hS2
      replace hs1 := Lib.hid hs1
      replace hs2 := Lib.hid hs2
      have hlt3 : ¬ (M : Int) < (M : Int) := by omega
      go_wp2_with fail
      rw [hS1.out]
      by_cases h200 : M ≤ 200
      · have hT7 : Told (parN M [dTok 7]) num7 0 := by
          by_cases h9 : M ≤ 199
          · exact (told_deep M).1 h9
          · obtain rfl : M = 200 := by omega
            exact told_200
        have k7 : Calls Tryz.prog 15 #[.string S1] wr fun e w' => ∃ B d, e = .returned (.tuple #[.agg #[.int .i64 1, .string ⟨#[]⟩, .int .i64 7, .slice B 0 d], .int .i64 0]) ∧ Below wr.heap.size wr w' ∧ TmV w' (· < w'.heap.size) num7 B d ∧ num7.size ≤ 10000 := kp.out num7 hT7 wr hX.out.env
        refine k7.mono ?_
        clear k7 kp kq hT7
        rintro e w2 ⟨B, d, rfl, hb, hT, _⟩
        replace hX := Lib.hid ((hX.out.later hb).add hT)
        obtain ⟨V1, hV1⟩ : ∃ W, w2.alloc (.cells #[.int .i64 1, .string ⟨#[]⟩, .int .i64 7, .slice B 0 d] 26) = W := ⟨_, rfl⟩
        replace hX : Hid (Bx w [⟨num7, B, d, w2.heap.size⟩] V1) := by rw [← hV1]; exact hX
        clear hb hT
        by_cases h9 : M ≤ 199
        · have g9 : (M : Int) ≤ 199 := by omega
          have g10 : decide ((M : Int) ≤ 199) = true := decide_eq_true g9
          have g11 : ¬ (200 : Int) < (M : Int) := by omega
          have g12 : decide ((200 : Int) < (M : Int)) = false := decide_eq_false g11
          have k8 := Lib.hid (kr.out (getN M) ((told_gets M (by omega)).1 h9) V1 hX.out.env)
          clear kr ks
          obtain ⟨t2, ht2⟩ : ∃ t, getN M = t := ⟨_, rfl⟩
          rw [ht2] at k8
          replace ht2 := Lib.hid ht2
          go_wp2_with fail
          replace hV1 := Lib.hid hV1
          rw [hS2.out]
          refine k8.out.mono ?_
          clear k8
          rintro e w3 ⟨D, q, rfl, hb, hT, _⟩
          replace hX := Lib.hid ((hX.out.later hb).add hT)
          obtain ⟨V2, hV2⟩ : ∃ W, w3.alloc (.cells #[.int .i64 t2.kind, .string t2.name, .int .i64 t2.num, .slice D t2.kids.length q] 26) = W := ⟨_, rfl⟩
          replace hX : Hid (Bx w [⟨t2, D, q, w3.heap.size⟩, ⟨num7, B, d, w2.heap.size⟩] V2) := by rw [← hV2]; exact hX
          clear hb hT
          have a1 : TB.At V2 ⟨num7, B, d, w2.heap.size⟩ := hX.out.at_ _ (by simp)
          have x1 : V2.heap[w2.heap.size]? = some (.cells #[.int .i64 1, .string ⟨#[]⟩, .int .i64 7, .slice B 0 d] 26 (0, 0)) := a1.box
          have c2 := cell_of_row V2 w2.heap.size 2 _ _ _ x1
          replace x1 := Lib.hid x1
          clear a1
          go_wp2_with fail
          go_ret
          exact ⟨rfl, hX.out.below⟩
        · have g9 : ¬ (M : Int) ≤ 199 := by omega
          have g10 : decide ((M : Int) ≤ 199) = false := decide_eq_false g9
          have g11 : ¬ (200 : Int) < (M : Int) := by omega
          have g12 : decide ((200 : Int) < (M : Int)) = false := decide_eq_false g11
          have k8 := Lib.hid (ks.out ((told_gets M (by omega)).2 (by omega)) V1 hX.out.env)
          clear kr ks
          go_wp2_with fail
          replace hV1 := Lib.hid hV1
          rw [hS2.out]
          refine k8.out.mono ?_
          clear k8
          rintro e w3 ⟨rfl, hb⟩
          have hT := T0_at w3 (· < w3.heap.size)
          replace hX := Lib.hid ((hX.out.later hb).add hT)
          obtain ⟨V2, hV2⟩ : ∃ W, w3.alloc (.cells #[.int .i64 0, .string ⟨#[]⟩, .int .i64 0, .slice none 0 0] 26) = W := ⟨_, rfl⟩
          replace hX : Hid (Bx w [⟨T0, none, 0, w3.heap.size⟩, ⟨num7, B, d, w2.heap.size⟩] V2) := by rw [← hV2]; exact hX
          clear hb hT
          have a1 : TB.At V2 ⟨num7, B, d, w2.heap.size⟩ := hX.out.at_ _ (by simp)
          have x1 : V2.heap[w2.heap.size]? = some (.cells #[.int .i64 1, .string ⟨#[]⟩, .int .i64 7, .slice B 0 d] 26 (0, 0)) := a1.box
          have c2 := cell_of_row V2 w2.heap.size 2 _ _ _ x1
          have hlt9 := World.lt_of_get x1
          have c3 : (w3.alloc (.cells #[.int .i64 0, .string ⟨#[]⟩, .int .i64 0, .slice none 0 0] 26)).cell? ⟨w2.heap.size, 2, none⟩ = some (.int .i64 7) := by rw [hV2]; exact c2
          replace x1 := Lib.hid x1
          replace hV2 := Lib.hid hV2
          clear a1
          go_wp2_with fail
          go_ret
          exact ⟨rfl, by rw [hV2.out]; exact hX.out.below⟩
      · have g11 : (200 : Int) < (M : Int) := by omega
        have g12 : decide ((200 : Int) < (M : Int)) = true := decide_eq_true g11
        have k7 := Lib.hid (kq.out ((told_deep M).2 (by omega)) wr hX.out.env)
        have k8 := Lib.hid (fun W h => ks.out ((told_gets M (by omega)).2 (by omega)) W h)
        clear kp kq kr ks
        refine k7.out.mono ?_
        clear k7
        rintro e w2 ⟨rfl, hb⟩
        have hT := T0_at w2 (· < w2.heap.size)
        replace hX := Lib.hid ((hX.out.later hb).add hT)
        obtain ⟨V1, hV1⟩ : ∃ W, w2.alloc (.cells #[.int .i64 0, .string ⟨#[]⟩, .int .i64 0, .slice none 0 0] 26) = W := ⟨_, rfl⟩
        replace hX : Hid (Bx w [⟨T0, none, 0, w2.heap.size⟩] V1) := by rw [← hV1]; exact hX
        replace k8 := Lib.hid (k8.out V1 hX.out.env)
        replace hV1 := Lib.hid hV1
        clear hb hT
        go_wp2_with fail
        rw [hS2.out, hV1.out]
        refine k8.out.mono ?_
        clear k8
        rintro e w3 ⟨rfl, hb⟩
        have hT := T0_at w3 (· < w3.heap.size)
        replace hX := Lib.hid ((hX.out.later hb).add hT)
        clear hb hT
        go_wp2_with fail
        go_ret
        exact ⟨rfl, hX.out.below⟩
end Go.Proofs.YtpdombmpmhnolaaGreatDoor.Pa
