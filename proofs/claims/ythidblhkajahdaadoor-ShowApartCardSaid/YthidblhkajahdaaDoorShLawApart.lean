/-
  ShowApart's walk: true of whatever bytes. Conditions: the variables that are read lie as laid; the bytes can be read.
-/
import Derived.Test.YthidblhkajahdaaDoorShBase
import Derived.Test.YthidblhkajahdaaDoorShMath2
import Derived.Test.YthidblhkajahdaaDoorShEq
namespace Go.Proofs.YthidblhkajahdaaDoor
open Go.RowKit Go.Shelf Go.Tm Go.Lx Go.Maps
attribute [local go_sem] Oper.semAt_some

/-- two terms by value, each in a box -/
structure TwoT (w W : World) (a b : Go.Tm.T) (A B : Option Addr) (ca cb b1 b2 : Nat) : Prop where
  one : OneT w W a A ca b1
  tb : TmV W (· < W.heap.size) b B cb
  c2 : W.heap[b2]? = some (.cells #[.int .i64 b.kind, .string b.name, .int .i64 b.num, .slice B b.kids.length cb] 24 (0, 0))
theorem TwoT.later {w W W' : World} {a b : Go.Tm.T} {A B : Option Addr} {ca cb b1 b2 : Nat} (h : TwoT w W a b A B ca cb b1 b2) (hb : Below W.heap.size W W') : TwoT w W' a b A B ca cb b1 b2 :=
  ⟨h.one.later hb, h.tb.later hb, (hb.block _ (World.lt_of_get h.c2)).trans h.c2⟩
structure TwoS (w : World) (a b : Go.Tm.T) (A B : Option Addr) (ca cb b1 b2 : Nat) where
  W : World
  ok : TwoT w W a b A B ca cb b1 b2
/-- two terms that are right are shown alike just if they are the same -/
theorem show_apart {a b : Go.Tm.T} (ha : Rt a) (hb : Rt b) (ra : rightT a = true) (rb : rightT b = true) : (eqT a b = true ∧ a = b) ∨ (eqT a b = false ∧ ¬ (showS a).toList = (showS b).toList) := by
  cases h : eqT a b with
  | true => exact .inl ⟨rfl, Eq.eq_of a b h⟩
  | false =>
    refine .inr ⟨rfl, fun e => ?_⟩
    have e2 : showS a = showS b := bytes_eq.1 (by rw [e, beq_self_eq_true])
    rw [showS_right ra, showS_right rb] at e2
    have e3 := congrArg (fun s : ByteArray => s.data.toList) e2
    simp only [X.data_strOf] at e3
    have e4 := print_inj (toks_right ha) (toks_right hb) e3
    have e5 := toks_inj ha b hb e4
    rw [e5, Eq.self_eq] at h
    cases h

set_option maxRecDepth 100000 in
set_option maxHeartbeats 4000000 in
theorem showApart_any (A : Option Addr) (zs : List Int) (c : Nat) (B : Option Addr) (ys : List Int) (d : Nat) (w : World) (hE : EnvS w) (hU : BtsS w A zs) (hz : ∀ z ∈ zs, 0 ≤ z ∧ z ≤ 255) (hl : zs.length ≤ 9223372036854775807) (hc : zs.length ≤ c) (hc2 : c ≤ 9223372036854775807)
    (hV : BtsS w B ys) (hy : ∀ z ∈ ys, 0 ≤ z ∧ z ≤ 255) (hm : ys.length ≤ 9223372036854775807) (hd : ys.length ≤ d) (hd2 : d ≤ 9223372036854775807) :
    Calls Tryd.prog 5 #[.slice A zs.length c, .slice B ys.length d] w fun e w' => e = .returned (.bool true) ∧ Below w.heap.size w w' := by
  have hX := Lib.hid (NowS.new hE)
  have km := Lib.hid (fun W h => made_any A zs c W h hz hl hc hc2)
  have kn := Lib.hid (fun W h => made_any B ys d W h hy hm hd hd2)
  replace hU := Lib.hid hU
  replace hV := Lib.hid hV
  clear hE hz hl hc hc2 hy hm hd hd2
  obtain ⟨N, hN⟩ : ∃ N, zs.length = N := ⟨_, rfl⟩
  obtain ⟨M, hM⟩ : ∃ N, ys.length = N := ⟨_, rfl⟩
  rw [hN] at km ⊢
  rw [hM] at kn ⊢
  replace hN := Lib.hid hN
  replace hM := Lib.hid hM
  go_enter Tryd.func5, Tryd.ntmps5
  go_wp2_with fail
  refine (examplesS_any _ hX.out.env).mono ?_
  rintro e w1 ⟨rfl, hb⟩
  replace hX := Lib.hid (hX.out.later hb)
  replace hV := Lib.hid (hV.out.later hb)
  replace km := Lib.hid (km.out w1 (hU.out.later hb))
  unfold tmV at km
  clear hb hU
  go_wp2_with fail
  refine km.out.mono ?_
  rintro e w2 ⟨t, C, k, rfl, hrt, hs, hdp, hb, hT⟩
  have hO := Lib.hid (OneT.new (hX.out.later hb) hT.wide)
  have hR := right_of hrt (by omega) (by omega)
  have kn := Lib.hid (kn.out (w2.alloc (.cells #[.int .i64 t.kind, .string t.name, .int .i64 t.num, .slice C t.kids.length k] 24)) ((hV.out.later hb).later (later_alloc _ _)))
  unfold tmV at kn
  replace hrt := Lib.hid hrt
  replace hR := Lib.hid hR
  clear km hX hb hT hdp hV
  obtain ⟨V, hV⟩ : ∃ V, w2.alloc (.cells #[.int .i64 t.kind, .string t.name, .int .i64 t.num, .slice C t.kids.length k] 24) = V := ⟨_, rfl⟩
  rw [hV] at hO kn
  replace hV := Lib.hid hV
  go_wp2_with fail
  rw [hV.out]
  refine kn.out.mono ?_
  rintro e w3 ⟨u, D, l, rfl, hru, hs2, hdp2, hb, hT⟩
  have hO2 : Hid (TwoT w (w3.alloc (.cells #[.int .i64 u.kind, .string u.name, .int .i64 u.num, .slice D u.kids.length l] 24)) t u C D k l w2.heap.size w3.heap.size) :=
    ⟨(hO.out.later hb).later (later_alloc _ _), hT.wide.later (later_alloc _ _), World.alloc_heap_new _ _⟩
  have hR2 := right_of hru (by omega) (by omega)
  have hap := show_apart hrt.out hru hR.out hR2
  have hsu : u.size ≤ 181 := hs2
  clear kn hO hb hT hdp2 hR2 hru hrt hR hV hs2
  obtain ⟨b1, hb1⟩ : ∃ b, w2.heap.size = b := ⟨_, rfl⟩
  rw [hb1] at hO2 ⊢
  clear hb1
  obtain ⟨s1, hs1⟩ : ∃ s, showS t = s := ⟨_, rfl⟩
  obtain ⟨s2, hs2⟩ : ∃ s, showS u = s := ⟨_, rfl⟩
  obtain ⟨r, hr⟩ : ∃ s, eqT t u = s := ⟨_, rfl⟩
  have KS : Hid (∀ (S : TwoS w t u C D k l b1 w3.heap.size) (v r : Value), ((v = .agg #[.int .i64 t.kind, .string t.name, .int .i64 t.num, .slice C t.kids.length k] ∧ r = .string s1) ∨ (v = .agg #[.int .i64 u.kind, .string u.name, .int .i64 u.num, .slice D u.kids.length l] ∧ r = .string s2)) → Calls Tryd.prog 27 #[v] S.W fun e w'' => e = .returned r ∧ ∃ S' : TwoS w t u C D k l b1 w3.heap.size, w'' = S'.W) := fun S v r hv => by
    rcases hv with ⟨rfl, rfl⟩ | ⟨rfl, rfl⟩
    · exact (show_any t C k S.W S.ok.one.now.env (by omega) S.ok.one.tm).mono fun e w' h9 => ⟨by rw [h9.1, hs1], ⟨w', S.ok.later h9.2⟩, rfl⟩
    · exact (show_any u D l S.W S.ok.one.now.env (by omega) S.ok.tb).mono fun e w' h9 => ⟨by rw [h9.1, hs2], ⟨w', S.ok.later h9.2⟩, rfl⟩
  have KE : Hid (∀ (S : TwoS w t u C D k l b1 w3.heap.size), Calls Tryd.prog 16 #[.agg #[.int .i64 t.kind, .string t.name, .int .i64 t.num, .slice C t.kids.length k], .agg #[.int .i64 u.kind, .string u.name, .int .i64 u.num, .slice D u.kids.length l]] S.W fun e w'' => e = .returned (.bool r) ∧ ∃ S' : TwoS w t u C D k l b1 w3.heap.size, w'' = S'.W) := fun S =>
    (same_any t u C D k l S.W (by omega) S.ok.one.tm S.ok.tb).mono fun e w' h9 => ⟨by rw [h9.1, hr], ⟨w', S.ok.later h9.2⟩, rfl⟩
  have p0 : ∀ S : TwoS w t u C D k l b1 w3.heap.size, S.W.cell? ⟨b1, 0, none⟩ = some (.int .i64 t.kind) := fun S => cell_of_row S.W b1 0 _ _ _ S.ok.one.box
  have p1 : ∀ S : TwoS w t u C D k l b1 w3.heap.size, S.W.cell? ⟨b1, 1, none⟩ = some (.string t.name) := fun S => cell_of_row S.W b1 1 _ _ _ S.ok.one.box
  have p2 : ∀ S : TwoS w t u C D k l b1 w3.heap.size, S.W.cell? ⟨b1, 2, none⟩ = some (.int .i64 t.num) := fun S => cell_of_row S.W b1 2 _ _ _ S.ok.one.box
  have p3 : ∀ S : TwoS w t u C D k l b1 w3.heap.size, S.W.cell? ⟨b1, 3, none⟩ = some (.slice C t.kids.length k) := fun S => cell_of_row S.W b1 3 _ _ _ S.ok.one.box
  have q0 : ∀ S : TwoS w t u C D k l b1 w3.heap.size, S.W.cell? ⟨w3.heap.size, 0, none⟩ = some (.int .i64 u.kind) := fun S => cell_of_row S.W w3.heap.size 0 _ _ _ S.ok.c2
  have q1 : ∀ S : TwoS w t u C D k l b1 w3.heap.size, S.W.cell? ⟨w3.heap.size, 1, none⟩ = some (.string u.name) := fun S => cell_of_row S.W w3.heap.size 1 _ _ _ S.ok.c2
  have q2 : ∀ S : TwoS w t u C D k l b1 w3.heap.size, S.W.cell? ⟨w3.heap.size, 2, none⟩ = some (.int .i64 u.num) := fun S => cell_of_row S.W w3.heap.size 2 _ _ _ S.ok.c2
  have q3 : ∀ S : TwoS w t u C D k l b1 w3.heap.size, S.W.cell? ⟨w3.heap.size, 3, none⟩ = some (.slice D u.kids.length l) := fun S => cell_of_row S.W w3.heap.size 3 _ _ _ S.ok.c2
  rw [hs1, hs2, hr] at hap
  have hsame : r = true → s1 = s2 := fun h => by
    rcases hap with ⟨_, rfl⟩ | ⟨h2, _⟩
    · rw [← hs1, ← hs2]
    · rw [h] at h2; cases h2
  have hdiff : r = false → ¬ s1.toList = s2.toList := fun h => by
    rcases hap with ⟨h2, _⟩ | ⟨_, h2⟩
    · rw [h] at h2; cases h2
    · exact h2
  clear hap hs hsu
  replace hs1 := Lib.hid hs1
  replace hs2 := Lib.hid hs2
  replace hr := Lib.hid hr
  haveI : Nonempty (TwoS w t u C D k l b1 w3.heap.size) := ⟨⟨_, hO2.out⟩⟩
  go_wp2_with fail
  cases r with
  | true =>
    obtain rfl := hsame rfl
    clear hsame hdiff
    refine wp_region_quiet_in (S := TwoS w t u C D k l b1 w3.heap.size) (fun s => s.W) (by kernel_rfl) (by kernel_rfl) ⟨⟨_, hO2.out.later (Below.refl _ _).drew⟩, rfl⟩ ?_
    repeat (go_big_quiet_step (first | (go_at_call 27; exact KS.out _ _ _ (by first | exact .inl ⟨rfl, rfl⟩ | exact .inr ⟨rfl, rfl⟩)) | (go_at_call 16; exact KE.out _)))
    refine wpQuiet_nil ?_
    rintro _ ⟨S, rfl⟩
    go_wp2
    go_ret
    exact ⟨rfl, S.ok.one.now.below⟩
  | false =>
    have n1 := hdiff rfl
    have n2 : (s1.toList == s2.toList) = false := by rw [beq_eq_false_iff_ne]; exact n1
    have n3 : decide (s1.toList = s2.toList) = false := decide_eq_false n1
    clear hsame hdiff
    refine wp_region_quiet_in (S := TwoS w t u C D k l b1 w3.heap.size) (fun s => s.W) (by kernel_rfl) (by kernel_rfl) ⟨⟨_, hO2.out.later (Below.refl _ _).drew⟩, rfl⟩ ?_
    repeat (go_big_quiet_step (first | (go_at_call 27; exact KS.out _ _ _ (by first | exact .inl ⟨rfl, rfl⟩ | exact .inr ⟨rfl, rfl⟩)) | (go_at_call 16; exact KE.out _)))
    refine wpQuiet_nil ?_
    rintro _ ⟨S, rfl⟩
    go_wp2
    go_ret
    exact ⟨rfl, S.ok.one.now.below⟩
end Go.Proofs.YthidblhkajahdaaDoor
