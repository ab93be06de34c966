/-
  app's walk: true of whatever terms. Conditions: the variables that are read lie as laid; what comes in can be read.
-/
import Derived.Test.YtpdombmpmhnolaaGreatDoorPaPr
namespace Go.Proofs.YtpdombmpmhnolaaGreatDoor.Pa
open Go.RowKit Go.Shelf Go.Tm Go.Lx Go.Maps
attribute [local go_sem] Oper.semAt_some

theorem row_p {W : World} {p : Nat → Prop} {b : Nat} {k n : Int} {nm : ByteArray} {ty : TypeId} (hp : p b) (hnm : nm.size ≤ 9223372036854775807) (xs : List (Go.Tm.T × Option Addr × Nat)) (c : Nat) (hx : ∀ x ∈ xs, TmV W p x.1 x.2.1 x.2.2) (hb : W.heap[b]? = some (.cells (xs.flatMap tmC).toArray ty (0, 0))) :
    TmV W p (.node k nm n (xs.map (·.1))) (some ⟨b, 0, none⟩) c := by
  refine ⟨hnm, .inr ⟨_, _, rfl, ?_⟩⟩
  refine row_new (p := p) hp xs 0 hx (fun i v hv => ?_)
  rw [Nat.zero_add, cell_of_row W b i _ _ _ hb, ← hv, List.getElem?_toArray]
set_option maxRecDepth 100000 in
set_option maxHeartbeats 4000000 in
theorem app_any (t u : Go.Tm.T) (A B : Option Addr) (c d : Nat) (w : World) (hT : TmV w (· < w.heap.size) t A c) (hU : TmV w (· < w.heap.size) u B d) :
    Calls Tryz.prog 26 #[.agg #[.int .i64 t.kind, .string t.name, .int .i64 t.num, .slice A t.kids.length c], .agg #[.int .i64 u.kind, .string u.name, .int .i64 u.num, .slice B u.kids.length d]] w fun e w' => ∃ C k, e = .returned (.agg #[.int .i64 4, .string ⟨#[]⟩, .int .i64 0, .slice C 2 k]) ∧ Below w.heap.size w w' ∧ TmV w' (· < w'.heap.size) (.node 4 ⟨#[]⟩ 0 [t, u]) C k := by
  go_enter Tryz.func26, Tryz.ntmps26
  obtain ⟨W1, hW1⟩ : ∃ W, w.alloc (.cells #[.int .i64 t.kind, .string t.name, .int .i64 t.num, .slice A t.kids.length c] 26) = W := ⟨_, rfl⟩
  obtain ⟨W2, hW2⟩ : ∃ W, W1.alloc (.cells #[.int .i64 u.kind, .string u.name, .int .i64 u.num, .slice B u.kids.length d] 26) = W := ⟨_, rfl⟩
  obtain ⟨W3, hW3⟩ : ∃ W, W2.alloc (.cells #[.int .i64 0, .string ⟨#[]⟩, .int .i64 0, .slice none 0 0] 26) = W := ⟨_, rfl⟩
  have z1 : W1.heap.size = w.heap.size + 1 := by rw [← hW1]; exact World.size_alloc _ _
  have z2 : W2.heap.size = w.heap.size + 1 + 1 := by rw [← hW2, ← z1]; exact World.size_alloc _ _
  have z3 : W3.heap.size = w.heap.size + 1 + 1 + 1 := by rw [← hW3, ← z2]; exact World.size_alloc _ _
  have k1 : Below w.heap.size w W1 := by rw [← hW1]; exact X.later_alloc _ _
  have k2 : Below W1.heap.size W1 W2 := by rw [← hW2]; exact X.later_alloc _ _
  have k3 : Below W2.heap.size W2 W3 := by rw [← hW3]; exact X.later_alloc _ _
  have r1 : W1.heap[w.heap.size]? = some (.cells #[.int .i64 t.kind, .string t.name, .int .i64 t.num, .slice A t.kids.length c] 26 (0, 0)) := by rw [← hW1]; exact World.alloc_heap_new w (.cells #[.int .i64 t.kind, .string t.name, .int .i64 t.num, .slice A t.kids.length c] 26)
  have r2 : W2.heap[w.heap.size + 1]? = some (.cells #[.int .i64 u.kind, .string u.name, .int .i64 u.num, .slice B u.kids.length d] 26 (0, 0)) := by rw [← hW2, ← z1]; exact World.alloc_heap_new W1 (.cells #[.int .i64 u.kind, .string u.name, .int .i64 u.num, .slice B u.kids.length d] 26)
  have r3 : W3.heap[w.heap.size + 1 + 1]? = some (.cells #[.int .i64 0, .string ⟨#[]⟩, .int .i64 0, .slice none 0 0] 26 (0, 0)) := by rw [← hW3, ← z2]; exact World.alloc_heap_new W2 (.cells #[.int .i64 0, .string ⟨#[]⟩, .int .i64 0, .slice none 0 0] 26)
  have r13 := (k3.block w.heap.size (by omega)).trans ((k2.block w.heap.size (by omega)).trans r1)
  have r23 := (k3.block (w.heap.size + 1) (by omega)).trans r2
  have hB3 : Below w.heap.size w W3 := k1.trans ((k2.mono k1.size).trans (k3.mono (by omega)))
  have hw9 : ((w.alloc (.cells #[.int .i64 t.kind, .string t.name, .int .i64 t.num, .slice A t.kids.length c] 26)).alloc (.cells #[.int .i64 u.kind, .string u.name, .int .i64 u.num, .slice B u.kids.length d] 26)).alloc (.cells #[.int .i64 0, .string ⟨#[]⟩, .int .i64 0, .slice none 0 0] 26) = W3 := by rw [hW1, hW2, hW3]
  clear k1 k2 k3 r1 r2 z1 z2
  replace hW1 := Lib.hid hW1
  replace hW2 := Lib.hid hW2
  replace hW3 := Lib.hid hW3
  have a0 := cell_of_row W3 w.heap.size 0 _ _ _ r13
  have a1 := cell_of_row W3 w.heap.size 1 _ _ _ r13
  have a2 := cell_of_row W3 w.heap.size 2 _ _ _ r13
  have a3 := cell_of_row W3 w.heap.size 3 _ _ _ r13
  have b0 := cell_of_row W3 (w.heap.size + 1) 0 _ _ _ r23
  have b1 := cell_of_row W3 (w.heap.size + 1) 1 _ _ _ r23
  have b2 := cell_of_row W3 (w.heap.size + 1) 2 _ _ _ r23
  have b3 := cell_of_row W3 (w.heap.size + 1) 3 _ _ _ r23
  obtain ⟨W4, hW4⟩ : ∃ W, W3.alloc (.cells #[.int .i64 t.kind, .string t.name, .int .i64 t.num, .slice A t.kids.length c, .int .i64 u.kind, .string u.name, .int .i64 u.num, .slice B u.kids.length d] 26) = W := ⟨_, rfl⟩
  have k4 : Below W3.heap.size W3 W4 := by rw [← hW4]; exact X.later_alloc _ _
  have r4 : W4.heap[W3.heap.size]? = some (.cells #[.int .i64 t.kind, .string t.name, .int .i64 t.num, .slice A t.kids.length c, .int .i64 u.kind, .string u.name, .int .i64 u.num, .slice B u.kids.length d] 26 (0, 0)) := by rw [← hW4]; exact World.alloc_heap_new W3 (.cells #[.int .i64 t.kind, .string t.name, .int .i64 t.num, .slice A t.kids.length c, .int .i64 u.kind, .string u.name, .int .i64 u.num, .slice B u.kids.length d] 26)
  have hr9 := (k4.block (w.heap.size + 1 + 1) (by omega)).trans r3
  have hB4 : Below w.heap.size w W4 := hB3.trans (k4.mono (by omega))
  have hl9 := World.lt_of_get hr9
  have hkp : ∀ (x : Go.Tm.T) (E : Option Addr) (e : Nat), TmV w (· < w.heap.size) x E e → TmV W4 (fun b => b < W4.heap.size ∧ b ≠ w.heap.size + 1 + 1) x E e := fun x E e hx => hx.kept (fun b hb => ⟨Nat.lt_of_lt_of_le (show b < w.heap.size from hb) hB4.size, by have : b < w.heap.size := hb; omega⟩) (fun b hb => hB4.block b hb)
  have hout : TmV W4 (fun b => b < W4.heap.size ∧ b ≠ w.heap.size + 1 + 1) (.node 4 ⟨#[]⟩ 0 [t, u]) (some ⟨W3.heap.size, 0, none⟩) 2 := row_p ⟨World.lt_of_get r4, by omega⟩ (by decide) [(t, A, c), (u, B, d)] 2 (fun x hx => by
    rcases List.mem_cons.1 hx with rfl | hx
    · exact hkp _ _ _ hT
    · obtain rfl := List.mem_singleton.1 hx
      exact hkp _ _ _ hU) r4
  have f0 := frozen_of_row hr9 0
  have f1 := frozen_of_row hr9 1
  have f2 := frozen_of_row hr9 2
  have f3 := frozen_of_row hr9 3
  have g0 := cell_of_row W4 (w.heap.size + 1 + 1) 0 _ _ _ hr9
  have g1 := cell_of_row W4 (w.heap.size + 1 + 1) 1 _ _ _ hr9
  have g2 := cell_of_row W4 (w.heap.size + 1 + 1) 2 _ _ _ hr9
  have g3 := cell_of_row W4 (w.heap.size + 1 + 1) 3 _ _ _ hr9
  have s9 := set4_same (v0 := .int .i64 4) (v1 := .string ⟨#[]⟩) (v2 := .int .i64 0) (v3 := .slice (some ⟨W3.heap.size, 0, none⟩) 2 2) hr9
  have s0 := cell_of_row _ (w.heap.size + 1 + 1) 0 _ _ _ s9
  have s1 := cell_of_row _ (w.heap.size + 1 + 1) 1 _ _ _ s9
  have s2 := cell_of_row _ (w.heap.size + 1 + 1) 2 _ _ _ s9
  have s3 := cell_of_row _ (w.heap.size + 1 + 1) 3 _ _ _ s9
  unfold set4 at s0 s1 s2 s3
  have hend : Hid (Below w.heap.size w (set4 W4 (w.heap.size + 1 + 1) (.int .i64 4) (.string ⟨#[]⟩) (.int .i64 0) (.slice (some ⟨W3.heap.size, 0, none⟩) 2 2)) ∧ TmV (set4 W4 (w.heap.size + 1 + 1) (.int .i64 4) (.string ⟨#[]⟩) (.int .i64 0) (.slice (some ⟨W3.heap.size, 0, none⟩) 2 2)) (· < (set4 W4 (w.heap.size + 1 + 1) (.int .i64 4) (.string ⟨#[]⟩) (.int .i64 0) (.slice (some ⟨W3.heap.size, 0, none⟩) 2 2)).heap.size) (.node 4 ⟨#[]⟩ 0 [t, u]) (some ⟨W3.heap.size, 0, none⟩) 2) := by
    exact ⟨set4_below hB4 (by omega), hout.kept (fun b hb => by rw [set4_size]; exact hb.1) (fun b hb => set4_other hb.2)⟩
  unfold set4 at hend
  clear hkp hout hT hU
  replace k4 := Lib.hid k4
  replace hB4 := Lib.hid hB4
  replace hB3 := Lib.hid hB3
  replace hr9 := Lib.hid hr9
  replace s9 := Lib.hid s9
  replace r4 := Lib.hid r4
  replace r13 := Lib.hid r13
  replace r23 := Lib.hid r23
  replace r3 := Lib.hid r3
  have hres : Tryz.f26.results = #[.cell 4 26] := by kernel_rfl
  replace hres := Lib.hid hres
  replace z3 := Lib.hid z3
  go_wp2_with fail
  refine bodyPost_ret (v := .agg #[.int .i64 4, .string ⟨#[]⟩, .int .i64 0, .slice (some ⟨W3.heap.size, 0, none⟩) 2 2]) ?_ rfl ⟨_, _, rfl, hend.out.1, hend.out.2⟩
  simp only [results, hres.out]
  go_simp
set_option maxRecDepth 100000 in
set_option maxHeartbeats 4000000 in
theorem paren_any (t : Go.Tm.T) (A : Option Addr) (c : Nat) (w : World) (hE : EnvP w) (hR : rightT t = true) (hz : t.size ≤ 4194304) (hT : TmV w (· < w.heap.size) t A c) :
    Calls Tryz.prog 25 #[.agg #[.int .i64 t.kind, .string t.name, .int .i64 t.num, .slice A t.kids.length c]] w fun e w' => e = .returned (.string (cS (toksT t))) ∧ Below w.heap.size w w' := by
  have hX := Lib.hid ((Bx.new hE).add hT)
  have hcs : cS (toksT t) = (⟨#[40]⟩ ++ showS t) ++ ⟨#[41]⟩ := by unfold cS; rw [show_pS hR]
  obtain ⟨V, hV⟩ : ∃ W, w.alloc (.cells #[.int .i64 t.kind, .string t.name, .int .i64 t.num, .slice A t.kids.length c] 26) = W := ⟨_, rfl⟩
  rw [hV] at hX
  have a0 : TB.At V ⟨t, A, c, w.heap.size⟩ := hX.out.at_ _ (by simp)
  have x0 : V.heap[w.heap.size]? = some (.cells #[.int .i64 t.kind, .string t.name, .int .i64 t.num, .slice A t.kids.length c] 26 (0, 0)) := a0.box
  have c0 := cell_of_row V w.heap.size 0 _ _ _ x0
  have c1 := cell_of_row V w.heap.size 1 _ _ _ x0
  have c2 := cell_of_row V w.heap.size 2 _ _ _ x0
  have c3 := cell_of_row V w.heap.size 3 _ _ _ x0
  have ks := show_any t A c V hX.out.env.s hz a0.tm
  unfold tmV at ks
  obtain ⟨sx, hsx⟩ : ∃ s, showS t = s := ⟨_, rfl⟩
  have hq : (showS t).size ≤ 1020000 := by
    obtain ⟨h1, h2, _⟩ := rt_parts hR
    have h3 := show_len h1
    rw [size_show hR]; omega
  rw [hsx] at ks hcs hq
  have hq2 : (⟨#[40]⟩ ++ sx : ByteArray).size ≤ 1020001 := by rw [ByteArray.size_append]; show 1 + _ ≤ _; omega
  have y1 : ¬ 9223372036854775807 < 1 + sx.size := by omega
  have y2 : ¬ 9223372036854775807 < 1 + sx.size + 1 := by omega
  replace ks := Lib.hid ks
  replace hcs := Lib.hid hcs
  replace hsx := Lib.hid hsx
  replace x0 := Lib.hid x0
  replace a0 := Lib.hid a0
  clear hE hR hz hT
  go_enter Tryz.func25, Tryz.ntmps25
  go_wp2_with fail
  refine ks.out.mono ?_
  rintro e w2 ⟨rfl, hb⟩
  replace hX := Lib.hid (hX.out.later hb)
  clear hb ks c0 c1 c2 c3 x0 a0
  replace hV := Lib.hid hV
  go_wp2_with fail
  go_ret
  exact ⟨by rw [hcs.out]; rfl, hX.out.below⟩
/-- texts in a row -/
def Row4 (rb : Nat) (s0 s1 s2 s3 : ByteArray) (W : World) : Prop := W.heap[rb]? = some (.cells #[.string s0, .string s1, .string s2, .string s3] 9 (0, 0))
theorem Row4.later {rb : Nat} {s0 s1 s2 s3 : ByteArray} {W W' : World} (h : Row4 rb s0 s1 s2 s3 W) (hb : Below W.heap.size W W') : Row4 rb s0 s1 s2 s3 W' := (hb.block _ (World.lt_of_get h)).trans h
theorem cS_one {l : List Tok} (h0 : l ≠ []) (h : Go.Lx.rightL l = true) : lexL (cS l).data.toList = some (parL l) := by
  have := cS_lex h0 h [] (k := []) rfl
  simpa using this
theorem mark_lex {b : List UInt8} {k : List Tok} (hb : lexL b = some k) : lexL (60 :: b) = some (mTok [60] :: k) := by
  rw [lex_mark (by decide) b, hb]; rfl
theorem data_app (a b : ByteArray) : (a ++ b).data.toList = a.data.toList ++ b.data.toList := by
  rw [ByteArray.data_append, Array.toList_append]
end Go.Proofs.YtpdombmpmhnolaaGreatDoor.Pa
