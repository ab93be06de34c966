/-
  ShowCounts's walk: true of whatever bytes. Conditions: the variables that are read lie as laid; the bytes can be read.
-/
import Derived.Test.YthidblhkajahdaaDoorShBase
import Derived.Test.YthidblhkajahdaaDoorShNum
namespace Go.Proofs.YthidblhkajahdaaDoor
open Go.RowKit Go.Shelf Go.Tm Go.Lx Go.Maps
attribute [local go_sem] Oper.semAt_some

set_option maxRecDepth 100000 in
set_option maxHeartbeats 4000000 in
theorem showCounts_any (A : Option Addr) (zs : List Int) (c : Nat) (w : World) (hE : EnvS w) (hU : BtsS w A zs) (hz : ∀ z ∈ zs, 0 ≤ z ∧ z ≤ 255) (hl : zs.length ≤ 9223372036854775807) (hc : zs.length ≤ c) (hc2 : c ≤ 9223372036854775807) :
    Calls Tryd.prog 7 #[.slice A zs.length c] w fun e w' => e = .returned (.bool true) ∧ Below w.heap.size w w' := by
  have hX := Lib.hid (NowS.new hE)
  have km := Lib.hid (fun W h => made_any A zs c W h hz hl hc hc2)
  replace hU := Lib.hid hU
  clear hE hz hl hc hc2
  obtain ⟨N, hN⟩ : ∃ N, zs.length = N := ⟨_, rfl⟩
  rw [hN] at km ⊢
  replace hN := Lib.hid hN
  go_enter Tryd.func7, Tryd.ntmps7
  go_wp2_with fail
  refine (examplesS_any _ hX.out.env).mono ?_
  rintro e w1 ⟨rfl, hb⟩
  replace hX := Lib.hid (hX.out.later hb)
  replace km := Lib.hid (km.out w1 (hU.out.later hb))
  unfold tmV at km
  clear hb hU
  go_wp2_with fail
  refine km.out.mono ?_
  rintro e w2 ⟨t, B, d, rfl, hrt, hs, hd, hb, hT⟩
  have hO := Lib.hid (OneT.new (hX.out.later hb) hT.wide)
  have hR := right_of hrt (by omega) (by omega)
  have hst := showT_right hR
  clear km hX hb hT hd hR
  obtain ⟨n3, hn3⟩ : ∃ n, kcount 3 t = n := ⟨_, rfl⟩
  have hw3 : cntW [102, 117, 110] (showT t) = n3 := by rw [hst, toks_cnt wd_fun hrt, hn3]
  obtain ⟨n5, hn5⟩ : ∃ n, kcount 5 t = n := ⟨_, rfl⟩
  have hw5 : cntW [108, 101, 116] (showT t) = n5 := by rw [hst, toks_cnt wd_let hrt, hn5]
  obtain ⟨n6, hn6⟩ : ∃ n, kcount 6 t = n := ⟨_, rfl⟩
  have hw6 : cntW [101, 108, 115, 101] (showT t) = n6 := by rw [hst, toks_cnt wd_else hrt, hn6]
  obtain ⟨n7, hn7⟩ : ∃ n, kcount 7 t = n := ⟨_, rfl⟩
  have hw7 : cntW [119, 104, 105, 108, 101] (showT t) = n7 := by rw [hst, toks_cnt wd_while hrt, hn7]
  obtain ⟨n8, hn8⟩ : ∃ n, kcount 8 t = n := ⟨_, rfl⟩
  have hw8 : cntW [114, 97, 105, 115, 101] (showT t) = n8 := by rw [hst, toks_cnt wd_raise hrt, hn8]
  obtain ⟨n9, hn9⟩ : ∃ n, kcount 9 t = n := ⟨_, rfl⟩
  have hw9 : cntW [116, 114, 121] (showT t) = n9 := by rw [hst, toks_cnt wd_try hrt, hn9]
  obtain ⟨n13, hn13⟩ : ∃ n, kcount 13 t = n := ⟨_, rfl⟩
  have hw13 : cntW [59] (showT t) = n13 := by rw [hst, toks_cnt wd_seq hrt, hn13]
  obtain ⟨n11, hn11⟩ : ∃ n, kcount 11 t = n := ⟨_, rfl⟩
  have hw11 : cntW [58, 61] (showT t) = n11 := by rw [hst, toks_cnt wd_set hrt, hn11]
  obtain ⟨n10, hn10⟩ : ∃ n, kcount 10 t = n := ⟨_, rfl⟩
  have hw10 : cntW [33] (showT t) = n10 := by rw [hst, toks_cnt wd_get hrt, hn10]
  have KW : Hid (∀ (S : OneS w t B d w2.heap.size) (s : ByteArray) (r : Value), ((s = ⟨#[102, 117, 110]⟩ ∧ r = .int .i64 (n3 : Nat)) ∨ (s = ⟨#[108, 101, 116]⟩ ∧ r = .int .i64 (n5 : Nat)) ∨ (s = ⟨#[101, 108, 115, 101]⟩ ∧ r = .int .i64 (n6 : Nat)) ∨ (s = ⟨#[119, 104, 105, 108, 101]⟩ ∧ r = .int .i64 (n7 : Nat)) ∨ (s = ⟨#[114, 97, 105, 115, 101]⟩ ∧ r = .int .i64 (n8 : Nat)) ∨ (s = ⟨#[116, 114, 121]⟩ ∧ r = .int .i64 (n9 : Nat)) ∨ (s = ⟨#[59]⟩ ∧ r = .int .i64 (n13 : Nat)) ∨ (s = ⟨#[58, 61]⟩ ∧ r = .int .i64 (n11 : Nat)) ∨ (s = ⟨#[33]⟩ ∧ r = .int .i64 (n10 : Nat))) → Calls Tryd.prog 29 #[.agg #[.int .i64 t.kind, .string t.name, .int .i64 t.num, .slice B t.kids.length d], .string s] S.W fun e w'' => e = .returned r ∧ ∃ S' : OneS w t B d w2.heap.size, w'' = S'.W) := fun S s r hv => by
    have h := fun s => words_any t s B d S.W S.ok.now.env (by omega) S.ok.tm
    rcases hv with ⟨rfl, rfl⟩ | ⟨rfl, rfl⟩ | ⟨rfl, rfl⟩ | ⟨rfl, rfl⟩ | ⟨rfl, rfl⟩ | ⟨rfl, rfl⟩ | ⟨rfl, rfl⟩ | ⟨rfl, rfl⟩ | ⟨rfl, rfl⟩
    · exact (h _).mono fun e w' h9 => ⟨by rw [h9.1]; exact congrArg (fun n : Nat => Ending.returned (.int .i64 n)) hw3, ⟨w', S.ok.later h9.2⟩, rfl⟩
    · exact (h _).mono fun e w' h9 => ⟨by rw [h9.1]; exact congrArg (fun n : Nat => Ending.returned (.int .i64 n)) hw5, ⟨w', S.ok.later h9.2⟩, rfl⟩
    · exact (h _).mono fun e w' h9 => ⟨by rw [h9.1]; exact congrArg (fun n : Nat => Ending.returned (.int .i64 n)) hw6, ⟨w', S.ok.later h9.2⟩, rfl⟩
    · exact (h _).mono fun e w' h9 => ⟨by rw [h9.1]; exact congrArg (fun n : Nat => Ending.returned (.int .i64 n)) hw7, ⟨w', S.ok.later h9.2⟩, rfl⟩
    · exact (h _).mono fun e w' h9 => ⟨by rw [h9.1]; exact congrArg (fun n : Nat => Ending.returned (.int .i64 n)) hw8, ⟨w', S.ok.later h9.2⟩, rfl⟩
    · exact (h _).mono fun e w' h9 => ⟨by rw [h9.1]; exact congrArg (fun n : Nat => Ending.returned (.int .i64 n)) hw9, ⟨w', S.ok.later h9.2⟩, rfl⟩
    · exact (h _).mono fun e w' h9 => ⟨by rw [h9.1]; exact congrArg (fun n : Nat => Ending.returned (.int .i64 n)) hw13, ⟨w', S.ok.later h9.2⟩, rfl⟩
    · exact (h _).mono fun e w' h9 => ⟨by rw [h9.1]; exact congrArg (fun n : Nat => Ending.returned (.int .i64 n)) hw11, ⟨w', S.ok.later h9.2⟩, rfl⟩
    · exact (h _).mono fun e w' h9 => ⟨by rw [h9.1]; exact congrArg (fun n : Nat => Ending.returned (.int .i64 n)) hw10, ⟨w', S.ok.later h9.2⟩, rfl⟩
  have KK : Hid (∀ (S : OneS w t B d w2.heap.size) (s r : Value), ((s = .int .i64 3 ∧ r = .int .i64 (n3 : Nat)) ∨ (s = .int .i64 5 ∧ r = .int .i64 (n5 : Nat)) ∨ (s = .int .i64 6 ∧ r = .int .i64 (n6 : Nat)) ∨ (s = .int .i64 7 ∧ r = .int .i64 (n7 : Nat)) ∨ (s = .int .i64 8 ∧ r = .int .i64 (n8 : Nat)) ∨ (s = .int .i64 9 ∧ r = .int .i64 (n9 : Nat)) ∨ (s = .int .i64 13 ∧ r = .int .i64 (n13 : Nat)) ∨ (s = .int .i64 11 ∧ r = .int .i64 (n11 : Nat)) ∨ (s = .int .i64 10 ∧ r = .int .i64 (n10 : Nat))) → Calls Tryd.prog 30 #[.agg #[.int .i64 t.kind, .string t.name, .int .i64 t.num, .slice B t.kids.length d], s] S.W fun e w'' => e = .returned r ∧ ∃ S' : OneS w t B d w2.heap.size, w'' = S'.W) := fun S s r hv => by
    have h := fun K => kinds_any K t.size t B d S.W (Nat.le_refl _) (by omega) S.ok.tm
    rcases hv with ⟨rfl, rfl⟩ | ⟨rfl, rfl⟩ | ⟨rfl, rfl⟩ | ⟨rfl, rfl⟩ | ⟨rfl, rfl⟩ | ⟨rfl, rfl⟩ | ⟨rfl, rfl⟩ | ⟨rfl, rfl⟩ | ⟨rfl, rfl⟩
    · exact (h _).mono fun e w' h9 => ⟨by rw [h9.1, hn3], ⟨w', S.ok.later h9.2⟩, rfl⟩
    · exact (h _).mono fun e w' h9 => ⟨by rw [h9.1, hn5], ⟨w', S.ok.later h9.2⟩, rfl⟩
    · exact (h _).mono fun e w' h9 => ⟨by rw [h9.1, hn6], ⟨w', S.ok.later h9.2⟩, rfl⟩
    · exact (h _).mono fun e w' h9 => ⟨by rw [h9.1, hn7], ⟨w', S.ok.later h9.2⟩, rfl⟩
    · exact (h _).mono fun e w' h9 => ⟨by rw [h9.1, hn8], ⟨w', S.ok.later h9.2⟩, rfl⟩
    · exact (h _).mono fun e w' h9 => ⟨by rw [h9.1, hn9], ⟨w', S.ok.later h9.2⟩, rfl⟩
    · exact (h _).mono fun e w' h9 => ⟨by rw [h9.1, hn13], ⟨w', S.ok.later h9.2⟩, rfl⟩
    · exact (h _).mono fun e w' h9 => ⟨by rw [h9.1, hn11], ⟨w', S.ok.later h9.2⟩, rfl⟩
    · exact (h _).mono fun e w' h9 => ⟨by rw [h9.1, hn10], ⟨w', S.ok.later h9.2⟩, rfl⟩
  have p0 : ∀ S : OneS w t B d w2.heap.size, S.W.cell? ⟨w2.heap.size, 0, none⟩ = some (.int .i64 t.kind) := fun S => cell_of_row S.W w2.heap.size 0 _ _ _ S.ok.box
  have p1 : ∀ S : OneS w t B d w2.heap.size, S.W.cell? ⟨w2.heap.size, 1, none⟩ = some (.string t.name) := fun S => cell_of_row S.W w2.heap.size 1 _ _ _ S.ok.box
  have p2 : ∀ S : OneS w t B d w2.heap.size, S.W.cell? ⟨w2.heap.size, 2, none⟩ = some (.int .i64 t.num) := fun S => cell_of_row S.W w2.heap.size 2 _ _ _ S.ok.box
  have p3 : ∀ S : OneS w t B d w2.heap.size, S.W.cell? ⟨w2.heap.size, 3, none⟩ = some (.slice B t.kids.length d) := fun S => cell_of_row S.W w2.heap.size 3 _ _ _ S.ok.box
  clear hst hrt hs hn3 hw3 hn5 hw5 hn6 hw6 hn7 hw7 hn8 hw8 hn9 hw9 hn13 hw13 hn11 hw11 hn10 hw10
  haveI : Nonempty (OneS w t B d w2.heap.size) := ⟨⟨_, hO.out⟩⟩
  go_wp2_with fail
  refine wp_region_quiet_in (S := OneS w t B d w2.heap.size) (fun s => s.W) (by kernel_rfl) (by kernel_rfl) ⟨⟨_, hO.out.later (Below.refl _ _).drew⟩, rfl⟩ ?_
  simp only [List.append_eq, List.cons_append, List.nil_append]
  repeat (go_big_quiet_step (first | (go_at_call 29; exact KW.out _ _ _ (by first | exact .inl ⟨rfl, rfl⟩ | exact .inr (.inl ⟨rfl, rfl⟩) | exact .inr (.inr (.inl ⟨rfl, rfl⟩)) | exact .inr (.inr (.inr (.inl ⟨rfl, rfl⟩))) | exact .inr (.inr (.inr (.inr (.inl ⟨rfl, rfl⟩)))) | exact .inr (.inr (.inr (.inr (.inr (.inl ⟨rfl, rfl⟩))))) | exact .inr (.inr (.inr (.inr (.inr (.inr (.inl ⟨rfl, rfl⟩)))))) | exact .inr (.inr (.inr (.inr (.inr (.inr (.inr (.inl ⟨rfl, rfl⟩))))))) | exact .inr (.inr (.inr (.inr (.inr (.inr (.inr (.inr (⟨rfl, rfl⟩)))))))))) | (go_at_call 30; exact KK.out _ _ _ (by first | exact .inl ⟨rfl, rfl⟩ | exact .inr (.inl ⟨rfl, rfl⟩) | exact .inr (.inr (.inl ⟨rfl, rfl⟩)) | exact .inr (.inr (.inr (.inl ⟨rfl, rfl⟩))) | exact .inr (.inr (.inr (.inr (.inl ⟨rfl, rfl⟩)))) | exact .inr (.inr (.inr (.inr (.inr (.inl ⟨rfl, rfl⟩))))) | exact .inr (.inr (.inr (.inr (.inr (.inr (.inl ⟨rfl, rfl⟩)))))) | exact .inr (.inr (.inr (.inr (.inr (.inr (.inr (.inl ⟨rfl, rfl⟩))))))) | exact .inr (.inr (.inr (.inr (.inr (.inr (.inr (.inr (⟨rfl, rfl⟩))))))))))))
  refine wpQuiet_nil ?_
  rintro _ ⟨S, rfl⟩
  go_wp2
  go_ret
  exact ⟨rfl, S.ok.now.below⟩
end Go.Proofs.YthidblhkajahdaaDoor
