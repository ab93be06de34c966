/-
  LatJoins's walk: true of whatever lattice and points. Conditions: the library's variables lie as laid; the lattice can be read.
-/
import Derived.Test.YtjeelebppfhmlaaDoorLtAt
import Derived.Deep.RegionHeld3
import Derived.Deep.DrawnRows
namespace Go.Proofs.YtjeelebppfhmlaaDoor
open Go.RowKit Go.Shelf Go.Lt
attribute [local go_sem ↓] Go.wp_at_zero Go.wp_at_succ

theorem joined {ns : List ByteArray} {us : List Nat} {J M : Nat → Nat → Nat} {z t x y v j : Nat} {p q : Bool} (hT : Told ns us J M z t) (hx : x < us.length) (hy : y < us.length) (hv : v < us.length) (h : IsJoin us x y j)
    (e1 : leqB ns.length us (x : Int) (v : Int) = p) (e2 : leqB ns.length us (y : Int) (v : Int) = q) : leqB ns.length us (j : Int) (v : Int) = (p && q) := by
  have hj := (hT.lat.ord.inn _ _ h.left).2
  rw [hT.leq _ _ hx hv] at e1
  rw [hT.leq _ _ hy hv] at e2
  rw [hT.leq _ _ hj hv]
  subst e1 e2
  rw [Bool.eq_iff_iff, Bool.and_eq_true]
  exact ⟨fun h1 => ⟨hT.lat.ord.trans _ _ _ h.left h1, hT.lat.ord.trans _ _ _ h.right h1⟩, fun h1 => h.least v h1.1 h1.2⟩
theorem met {ns : List ByteArray} {us : List Nat} {J M : Nat → Nat → Nat} {z t x y v m : Nat} {p q : Bool} (hT : Told ns us J M z t) (hx : x < us.length) (hy : y < us.length) (hv : v < us.length) (h : IsJoin (turnedL us) x y m)
    (e1 : leqB ns.length us (v : Int) (x : Int) = p) (e2 : leqB ns.length us (v : Int) (y : Int) = q) : leqB ns.length us (v : Int) (m : Int) = (p && q) := by
  have hm := (hT.lat.ord.inn _ _ (le_rt hT h.left)).1
  rw [hT.leq _ _ hv hx] at e1
  rw [hT.leq _ _ hv hy] at e2
  rw [hT.leq _ _ hv hm]
  subst e1 e2
  rw [Bool.eq_iff_iff, Bool.and_eq_true]
  exact ⟨fun h1 => ⟨hT.lat.ord.trans _ _ _ h1 (le_rt hT h.left), hT.lat.ord.trans _ _ _ h1 (le_rt hT h.right)⟩, fun h1 => le_rt hT (h.least v (le_tr hT h1.1) (le_tr hT h1.2))⟩
theorem ends {ns : List ByteArray} {us : List Nat} {J M : Nat → Nat → Nat} {z t x y j m : Nat} {p : Bool} (hT : Told ns us J M z t) (hx : x < us.length) (hy : y < us.length) (h : IsJoin us x y j) (k : IsJoin (turnedL us) x y m)
    (e : leqB ns.length us (x : Int) (y : Int) = p) : Hid ((p = true → j = y) ∧ (p = true → m = x)) ∧ Hid ((p = false → (j : Int) ≠ (y : Int)) ∧ (p = false → (m : Int) ≠ (x : Int))) := by
  rw [hT.leq _ _ hx hy] at e
  subst e
  refine ⟨⟨fun h1 => h.uniq hT.lat.ord ⟨h1, hT.lat.ord.refl y hy, fun _ _ h2 => h2⟩, fun h1 => k.uniq (hT.lat.turned hT.pos).ord ⟨le_tr hT (hT.lat.ord.refl x hx), le_tr hT h1, fun _ h2 _ => h2⟩⟩, fun h1 h2 => ?_, fun h1 h2 => ?_⟩
  · obtain rfl : j = y := by omega
    rw [h.left] at h1
    cases h1
  · obtain rfl : m = x := by omega
    rw [le_rt hT k.right] at h1
    cases h1

section
variable {P : Program} {ops : Array Oper} {Q : Exit → Act → World → Prop} {S : World → Prop}
/-- a call that is the only one to come up: it answers a known value, and what is known of the world stays -/
theorem call_next {i : Nat} {o : Oper} {v : Value} {fuel : Nat} {listed : Array Bool} {a : Act} {w : World} (hr : Region.ready .any ops listed = [i]) (hi : ops[i]? = some o) (hS : S w)
    (h : ∀ w, S w → ∀ K' : Act → World → Prop, (∀ w', S w' → K' (a.put o.dst v) w') → if Region.wanted o (yielded ops a.tmps) = true then Oper.wp P o a w K' Q else K' (a.put o.dst undef) w)
    (hK : ∀ w', S w' → wpAnyH P .any ops Q S fuel (listed.setIfInBounds i true) (a.put o.dst v) w') : wpAnyH P .any ops Q S (fuel + 1) listed a w := by
  refine wpAnyH_all hr (by simp) fun j hj => ?_
  obtain rfl : j = i := by simpa using hj
  unfold wpOp
  simp only [hi]
  have h2 := h w hS (fun a' w' => S w' ∧ wpAnyH P .any ops Q S fuel (listed.setIfInBounds j true) a' w') fun w' hS' => ⟨hS', hK w' hS'⟩
  split
  · rename_i hw
    rw [if_pos hw] at h2
    exact Or.inl h2
  · rename_i hw
    rw [if_neg hw] at h2
    exact h2
end

set_option maxRecDepth 100000 in
set_option maxHeartbeats 4000000 in
theorem latJoins_any (A B : Option Addr) (ns : List ByteArray) (us : List Nat) (c d : Nat) (a1 a2 a3 : Int) (w : World) (hE : Env w) (hL : LatAt w A B c ns us) (h1 : 0 ≤ a1 ∧ a1 < 256) (h2 : 0 ≤ a2 ∧ a2 < 256) (h3 : 0 ≤ a3 ∧ a3 < 256) :
    Calls Tryd.prog 5 #[.agg #[.slice A ns.length c, .slice B us.length d], .int .u8 a1, .int .u8 a2, .int .u8 a3] w fun e w' => e = .returned (.bool true) ∧ Below w.heap.size w w' := by
  have hX := Lib.hid (At.new (d := d) hE hL)
  have hnl := hL.nlen
  clear hE hL
  go_enter Tryd.func5, Tryd.ntmps5
  go_wp2_with fail
  refine (at_examples hX.out).mono ?_
  rintro e w1 ⟨rfl, hY⟩
  clear hX
  have q1 := hY.out.box.1
  have q2 := hY.out.box.2.1
  go_wp2_with fail
  clear q1 q2
  cases hR : rightB ns us with
  | false =>
    refine (at_right hY.out hR).mono ?_
    rintro e w2 ⟨rfl, hX⟩
    clear hY
    have q1 := hX.out.box.1
    have q2 := hX.out.box.2.1
    have hR := Lib.hid hR
    go_wp2_with fail
    clear q1 q2
    refine (at_join hX.out a1 a2 (no_join hR.out)).mono ?_
    rintro e w11 ⟨rfl, hX11⟩
    clear hX
    have q1 := hX11.out.box.1
    have q2 := hX11.out.box.2.1
    go_wp2_with fail
    clear q1 q2
    refine (at_meet hX11.out a1 a2 (no_meet hR.out)).mono ?_
    rintro e w12 ⟨rfl, hX12⟩
    clear hX11
    have q1 := hX12.out.box.1
    have q2 := hX12.out.box.2.1
    go_wp2_with fail
    clear q1 q2
    go_ret
    exact ⟨rfl, hX12.out.below⟩
  | true =>
    refine (at_right hY.out hR).mono ?_
    rintro e w2 ⟨rfl, hX⟩
    clear hY
    have q1 := hX.out.box.1
    have q2 := hX.out.box.2.1
    obtain ⟨J, M, z, t, hT⟩ := told_of hX.out.lat.w64 hR
    obtain ⟨x, ex, hx⟩ := hT.modN a1
    obtain ⟨y, ey, hy⟩ := hT.modN a2
    obtain ⟨v, ev, hv⟩ := hT.modN a3
    have hT := Lib.hid hT
    have hR := Lib.hid hR
    have hx := Lib.hid hx
    have hy := Lib.hid hy
    have hv := Lib.hid hv
    have ex := Lib.hid ex
    have ey := Lib.hid ey
    have ev := Lib.hid ev
    have hpos : 1 ≤ ns.length := by have := hT.out.pos; have := hT.out.eqn; omega
    go_wp2_with fail
    rw [ex.out, ey.out, ev.out]
    clear q1 q2 ex ey ev h1 h2 h3
    refine (at_join hX.out x y (hT.out.join x y hx.out hy.out)).mono ?_
    rintro e w19 ⟨rfl, hX19⟩
    clear hX
    have q1 := hX19.out.box.1
    have q2 := hX19.out.box.2.1
    go_wp2_with fail
    clear q1 q2
    refine (at_meet hX19.out x y (hT.out.meet x y hx.out hy.out)).mono ?_
    rintro e w20 ⟨rfl, hX20⟩
    clear hX19
    have q1 := hX20.out.box.1
    have q2 := hX20.out.box.2.1
    go_wp2_with fail
    clear q1 q2
    have kJ := Lib.hid (hT.out.isJ x y hx.out hy.out)
    have kM := Lib.hid (hT.out.isM x y hx.out hy.out)
    generalize hj : J x y = j at kJ ⊢
    generalize hm : M x y = m at kM ⊢
    clear hj hm
    have lj : Hid (j < us.length) := (hT.out.lat.ord.inn _ _ kJ.out.left).2
    have lm : Hid (m < us.length) := (hT.out.lat.ord.inn _ _ (le_rt hT.out kM.out.left)).1
    refine (at_leq hX20.out x j (hT.out.le kJ.out.left hx.out lj.out)).mono ?_
    rintro e w21 ⟨rfl, hX21⟩
    clear hX20
    have q1 := hX21.out.box.1
    have q2 := hX21.out.box.2.1
    go_wp2_with fail
    clear q1 q2
    refine (at_leq hX21.out y j (hT.out.le kJ.out.right hy.out lj.out)).mono ?_
    rintro e w22 ⟨rfl, hX22⟩
    clear hX21
    have q1 := hX22.out.box.1
    have q2 := hX22.out.box.2.1
    go_wp2_with fail
    clear q1 q2
    refine (at_leq hX22.out m x (hT.out.le (le_rt hT.out kM.out.left) lm.out hx.out)).mono ?_
    rintro e w23 ⟨rfl, hX23⟩
    clear hX22
    have q1 := hX23.out.box.1
    have q2 := hX23.out.box.2.1
    go_wp2_with fail
    clear q1 q2
    refine (at_leq hX23.out m y (hT.out.le (le_rt hT.out kM.out.right) lm.out hy.out)).mono ?_
    rintro e w24 ⟨rfl, hX24⟩
    clear hX23
    have q1 := hX24.out.box.1
    have q2 := hX24.out.box.2.1
    go_wp2_with fail
    clear q1 q2
    have hS : At w w24.drew w.heap.size A B c d ns us := hX24.out.drew
    clear hX24
    obtain ⟨p1, E1⟩ : ∃ r, Hid (leqB ns.length us (x : Int) (v : Int) = r) := ⟨_, rfl⟩
    obtain ⟨p2, E2⟩ : ∃ r, Hid (leqB ns.length us (y : Int) (v : Int) = r) := ⟨_, rfl⟩
    obtain ⟨p4, E4⟩ : ∃ r, Hid (leqB ns.length us (v : Int) (x : Int) = r) := ⟨_, rfl⟩
    obtain ⟨p5, E5⟩ : ∃ r, Hid (leqB ns.length us (v : Int) (y : Int) = r) := ⟨_, rfl⟩
    obtain ⟨p7, E7⟩ : ∃ r, Hid (leqB ns.length us (x : Int) (y : Int) = r) := ⟨_, rfl⟩
    have E3 : Hid (leqB ns.length us (j : Int) (v : Int) = (p1 && p2)) := joined hT.out hx.out hy.out hv.out kJ.out E1.out E2.out
    have E6 : Hid (leqB ns.length us (v : Int) (m : Int) = (p4 && p5)) := met hT.out hx.out hy.out hv.out kM.out E4.out E5.out
    obtain ⟨g1, g2⟩ := ends hT.out hx.out hy.out kJ.out kM.out E7.out
    have G1 : Hid (((j : Int) == (y : Int)) = p7) := by
      show ((j : Int) == (y : Int)) = p7
      cases p7
      · exact beq_eq_false_iff_ne.2 (g2.out.1 rfl)
      · rw [g1.out.1 rfl]; simp
    have G2 : Hid (((m : Int) == (x : Int)) = p7) := by
      show ((m : Int) == (x : Int)) = p7
      cases p7
      · exact beq_eq_false_iff_ne.2 (g2.out.2 rfl)
      · rw [g1.out.2 rfl]; simp
    clear kJ kM lj lm hx hy hv hT g1 g2 hR hpos hnl
    refine wp_region_held (S := fun W => At w W w.heap.size A B c d ns us) (by kernel_rfl) ?_
    refine wpAnyH_take (i := 0) (oi := { dst := some 90, op := Go.Op.move (Go.Operand.tmp 9), type := 4, pos := "keeps.go:45", after := #[], guard := none }) (v := (.bool true)) rfl (by kernel_rfl) (by kernel_rfl) (by kernel_rfl) (fun _ _ _ h => h) ?_ hS ?_
    · first | exact Or.inl ⟨by rfl, fun w hS => by have q1 := hS.box.1; have q2 := hS.box.2.1; go_simp⟩ | exact Or.inr ⟨by rfl, rfl⟩
    try simp only [Act.put, List.setIfInBounds_toArray, List.set_cons_zero, List.set_cons_succ]
    refine wpAnyH_take (i := 1) (oi := { dst := some 91, op := Go.Op.move (Go.Operand.tmp 90), type := 4, pos := "keeps.go:45", after := #[{ on := 0, ground := Go.Ground.data }], guard := none }) (v := (.bool true)) rfl (by kernel_rfl) (by kernel_rfl) (by kernel_rfl) (fun _ _ _ h => h) ?_ hS ?_
    · first | exact Or.inl ⟨by rfl, fun w hS => by have q1 := hS.box.1; have q2 := hS.box.2.1; go_simp⟩ | exact Or.inr ⟨by rfl, rfl⟩
    try simp only [Act.put, List.setIfInBounds_toArray, List.set_cons_zero, List.set_cons_succ]
    refine wpAnyH_take (i := 2) (oi := { dst := some 92, op := Go.Op.load 25 (Go.Operand.tmp 4), type := 25, pos := "keeps.go:45", after := #[{ on := 1, ground := Go.Ground.guard }], guard := some (1, true) }) (v := (.agg #[.slice A ns.length c, .slice B us.length d])) rfl (by kernel_rfl) (by kernel_rfl) (by kernel_rfl) (fun _ _ _ h => h) ?_ hS ?_
    · first | exact Or.inl ⟨by rfl, fun w hS => by have q1 := hS.box.1; have q2 := hS.box.2.1; go_simp⟩ | exact Or.inr ⟨by rfl, rfl⟩
    try simp only [Act.put, List.setIfInBounds_toArray, List.set_cons_zero, List.set_cons_succ]
    refine wpAnyH_take (i := 3) (oi := { dst := some 93, op := Go.Op.move (Go.Operand.tmp 11), type := 3, pos := "keeps.go:45", after := #[{ on := 1, ground := Go.Ground.guard }], guard := some (1, true) }) (v := (.int .i64 (x : Int))) rfl (by kernel_rfl) (by kernel_rfl) (by kernel_rfl) (fun _ _ _ h => h) ?_ hS ?_
    · first | exact Or.inl ⟨by rfl, fun w hS => by have q1 := hS.box.1; have q2 := hS.box.2.1; go_simp⟩ | exact Or.inr ⟨by rfl, rfl⟩
    try simp only [Act.put, List.setIfInBounds_toArray, List.set_cons_zero, List.set_cons_succ]
    refine wpAnyH_take (i := 4) (oi := { dst := some 94, op := Go.Op.move (Go.Operand.tmp 13), type := 3, pos := "keeps.go:45", after := #[{ on := 1, ground := Go.Ground.guard }], guard := some (1, true) }) (v := (.int .i64 (v : Int))) rfl (by kernel_rfl) (by kernel_rfl) (by kernel_rfl) (fun _ _ _ h => h) ?_ hS ?_
    · first | exact Or.inl ⟨by rfl, fun w hS => by have q1 := hS.box.1; have q2 := hS.box.2.1; go_simp⟩ | exact Or.inr ⟨by rfl, rfl⟩
    try simp only [Act.put, List.setIfInBounds_toArray, List.set_cons_zero, List.set_cons_succ]
    refine wpAnyH_take (i := 12) (oi := { dst := some 102, op := Go.Op.load 25 (Go.Operand.tmp 4), type := 25, pos := "keeps.go:45", after := #[{ on := 1, ground := Go.Ground.guard }], guard := some (1, true) }) (v := (.agg #[.slice A ns.length c, .slice B us.length d])) rfl (by kernel_rfl) (by kernel_rfl) (by kernel_rfl) (fun _ _ _ h => h) ?_ hS ?_
    · first | exact Or.inl ⟨by rfl, fun w hS => by have q1 := hS.box.1; have q2 := hS.box.2.1; go_simp⟩ | exact Or.inr ⟨by rfl, rfl⟩
    try simp only [Act.put, List.setIfInBounds_toArray, List.set_cons_zero, List.set_cons_succ]
    refine wpAnyH_take (i := 13) (oi := { dst := some 103, op := Go.Op.move (Go.Operand.tmp 14), type := 3, pos := "keeps.go:45", after := #[{ on := 1, ground := Go.Ground.guard }], guard := some (1, true) }) (v := (.int .i64 (j : Int))) rfl (by kernel_rfl) (by kernel_rfl) (by kernel_rfl) (fun _ _ _ h => h) ?_ hS ?_
    · first | exact Or.inl ⟨by rfl, fun w hS => by have q1 := hS.box.1; have q2 := hS.box.2.1; go_simp⟩ | exact Or.inr ⟨by rfl, rfl⟩
    try simp only [Act.put, List.setIfInBounds_toArray, List.set_cons_zero, List.set_cons_succ]
    refine wpAnyH_take (i := 14) (oi := { dst := some 104, op := Go.Op.move (Go.Operand.tmp 13), type := 3, pos := "keeps.go:45", after := #[{ on := 1, ground := Go.Ground.guard }], guard := some (1, true) }) (v := (.int .i64 (v : Int))) rfl (by kernel_rfl) (by kernel_rfl) (by kernel_rfl) (fun _ _ _ h => h) ?_ hS ?_
    · first | exact Or.inl ⟨by rfl, fun w hS => by have q1 := hS.box.1; have q2 := hS.box.2.1; go_simp⟩ | exact Or.inr ⟨by rfl, rfl⟩
    try simp only [Act.put, List.setIfInBounds_toArray, List.set_cons_zero, List.set_cons_succ]
    refine call_next (i := 5) (o := { dst := some 95, op := Go.Op.call { callee := Go.Callee.value (Go.Operand.func 16), args := #[Go.Operand.tmp 92, Go.Operand.tmp 93, Go.Operand.tmp 94], argTypes := #[25, 3, 3] }, type := 4, pos := "keeps.go:45", after := #[{ on := 2, ground := Go.Ground.data }, { on := 3, ground := Go.Ground.data }, { on := 4, ground := Go.Ground.data }, { on := 1, ground := Go.Ground.chain }, { on := 1, ground := Go.Ground.guard }], guard := some (1, true) }) (v := (.bool p1)) (by kernel_rfl) rfl hS ?_ ?_
    · intro w' hS K' hK0
      have hK := Lib.hid hK0
      clear hK0
      have q1 := hS.box.1
      have q2 := hS.box.2.1
      (rw [if_pos (by rfl)]; go_wp2_with fail; refine (at_leq hS _ _ E1.out).mono ?_; rintro e w' ⟨rfl, hX⟩; exact hK.out _ hX.out)
    intro wv8 hS8
    clear hS
    try simp only [Act.put, List.setIfInBounds_toArray, List.set_cons_zero, List.set_cons_succ]
    refine wpAnyH_take (i := 6) (oi := { dst := some 96, op := Go.Op.move (Go.Operand.tmp 95), type := 4, pos := "keeps.go:45", after := #[{ on := 5, ground := Go.Ground.data }, { on := 5, ground := Go.Ground.chain }, { on := 1, ground := Go.Ground.guard }], guard := some (1, true) }) (v := (.bool p1)) rfl (by kernel_rfl) (by kernel_rfl) (by kernel_rfl) (fun _ _ _ h => h) ?_ hS8 ?_
    · first | exact Or.inl ⟨by rfl, fun w hS => by have q1 := hS.box.1; have q2 := hS.box.2.1; go_simp⟩ | exact Or.inr ⟨by rfl, rfl⟩
    try simp only [Act.put, List.setIfInBounds_toArray, List.set_cons_zero, List.set_cons_succ]
    refine wpAnyH_take (i := 7) (oi := { dst := some 97, op := Go.Op.load 25 (Go.Operand.tmp 4), type := 25, pos := "keeps.go:45", after := #[{ on := 6, ground := Go.Ground.guard }], guard := some (6, true) }) (v := (bif p1 then .agg #[.slice A ns.length c, .slice B us.length d] else undef)) rfl (by kernel_rfl) (by kernel_rfl) (by kernel_rfl) (fun _ _ _ h => h) ?_ hS8 ?_
    · cases p1 <;> (first | exact Or.inl ⟨by rfl, fun w hS => by have q1 := hS.box.1; have q2 := hS.box.2.1; go_simp⟩ | exact Or.inr ⟨by rfl, rfl⟩)
    try simp only [Act.put, List.setIfInBounds_toArray, List.set_cons_zero, List.set_cons_succ]
    refine wpAnyH_take (i := 8) (oi := { dst := some 98, op := Go.Op.move (Go.Operand.tmp 12), type := 3, pos := "keeps.go:45", after := #[{ on := 6, ground := Go.Ground.guard }], guard := some (6, true) }) (v := (bif p1 then .int .i64 (y : Int) else undef)) rfl (by kernel_rfl) (by kernel_rfl) (by kernel_rfl) (fun _ _ _ h => h) ?_ hS8 ?_
    · cases p1 <;> (first | exact Or.inl ⟨by rfl, fun w hS => by have q1 := hS.box.1; have q2 := hS.box.2.1; go_simp⟩ | exact Or.inr ⟨by rfl, rfl⟩)
    try simp only [Act.put, List.setIfInBounds_toArray, List.set_cons_zero, List.set_cons_succ]
    refine wpAnyH_take (i := 9) (oi := { dst := some 99, op := Go.Op.move (Go.Operand.tmp 13), type := 3, pos := "keeps.go:45", after := #[{ on := 6, ground := Go.Ground.guard }], guard := some (6, true) }) (v := (bif p1 then .int .i64 (v : Int) else undef)) rfl (by kernel_rfl) (by kernel_rfl) (by kernel_rfl) (fun _ _ _ h => h) ?_ hS8 ?_
    · cases p1 <;> (first | exact Or.inl ⟨by rfl, fun w hS => by have q1 := hS.box.1; have q2 := hS.box.2.1; go_simp⟩ | exact Or.inr ⟨by rfl, rfl⟩)
    try simp only [Act.put, List.setIfInBounds_toArray, List.set_cons_zero, List.set_cons_succ]
    refine call_next (i := 10) (o := { dst := some 100, op := Go.Op.call { callee := Go.Callee.value (Go.Operand.func 16), args := #[Go.Operand.tmp 97, Go.Operand.tmp 98, Go.Operand.tmp 99], argTypes := #[25, 3, 3] }, type := 4, pos := "keeps.go:45", after := #[{ on := 7, ground := Go.Ground.data }, { on := 8, ground := Go.Ground.data }, { on := 9, ground := Go.Ground.data }, { on := 6, ground := Go.Ground.chain }, { on := 6, ground := Go.Ground.guard }], guard := some (6, true) }) (v := (bif p1 then .bool p2 else undef)) (by kernel_rfl) rfl hS8 ?_ ?_
    · intro w' hS K' hK0
      have hK := Lib.hid hK0
      clear hK0
      have q1 := hS.box.1
      have q2 := hS.box.2.1
      cases p1
      · rw [if_neg (Bool.eq_false_iff.1 (by rfl))]; exact hK.out _ hS
      · (rw [if_pos (by rfl)]; go_wp2_with fail; refine (at_leq hS _ _ E2.out).mono ?_; rintro e w' ⟨rfl, hX⟩; exact hK.out _ hX.out)
    intro wv13 hS13
    clear hS8
    try simp only [Act.put, List.setIfInBounds_toArray, List.set_cons_zero, List.set_cons_succ]
    refine wpAnyH_take (i := 11) (oi := { dst := some 101, op := Go.Op.pick (Go.Operand.tmp 96) (Go.Operand.tmp 100) (Go.Operand.const (Go.Value.bool false)), type := 4, pos := "keeps.go:45", after := #[{ on := 6, ground := Go.Ground.data }, { on := 10, ground := Go.Ground.data }, { on := 1, ground := Go.Ground.guard }], guard := some (1, true) }) (v := (.bool (p1 && p2))) rfl (by kernel_rfl) (by kernel_rfl) (by kernel_rfl) (fun _ _ _ h => h) ?_ hS13 ?_
    · cases p1 <;> cases p2 <;> (first | exact Or.inl ⟨by rfl, fun w hS => by have q1 := hS.box.1; have q2 := hS.box.2.1; go_simp⟩ | exact Or.inr ⟨by rfl, rfl⟩)
    try simp only [Act.put, List.setIfInBounds_toArray, List.set_cons_zero, List.set_cons_succ]
    refine call_next (i := 15) (o := { dst := some 105, op := Go.Op.call { callee := Go.Callee.value (Go.Operand.func 16), args := #[Go.Operand.tmp 102, Go.Operand.tmp 103, Go.Operand.tmp 104], argTypes := #[25, 3, 3] }, type := 4, pos := "keeps.go:45", after := #[{ on := 12, ground := Go.Ground.data }, { on := 13, ground := Go.Ground.data }, { on := 14, ground := Go.Ground.data }, { on := 10, ground := Go.Ground.chain }, { on := 1, ground := Go.Ground.guard }], guard := some (1, true) }) (v := (.bool (p1 && p2))) (by kernel_rfl) rfl hS13 ?_ ?_
    · intro w' hS K' hK0
      have hK := Lib.hid hK0
      clear hK0
      have q1 := hS.box.1
      have q2 := hS.box.2.1
      (rw [if_pos (by rfl)]; go_wp2_with fail; refine (at_leq hS _ _ E3.out).mono ?_; rintro e w' ⟨rfl, hX⟩; exact hK.out _ hX.out)
    intro wv15 hS15
    clear hS13
    try simp only [Act.put, List.setIfInBounds_toArray, List.set_cons_zero, List.set_cons_succ]
    refine wpAnyH_take (i := 16) (oi := { dst := some 106, op := Go.Op.binOp Go.BinOp.eql 4 (Go.Operand.tmp 101) (Go.Operand.tmp 105) 4, type := 4, pos := "keeps.go:45", after := #[{ on := 11, ground := Go.Ground.data }, { on := 15, ground := Go.Ground.data }, { on := 1, ground := Go.Ground.guard }], guard := some (1, true) }) (v := (.bool true)) rfl (by kernel_rfl) (by kernel_rfl) (by kernel_rfl) (fun _ _ _ h => h) ?_ hS15 ?_
    · cases p1 <;> cases p2 <;> (first | exact Or.inl ⟨by rfl, fun w hS => by have q1 := hS.box.1; have q2 := hS.box.2.1; go_simp⟩ | exact Or.inr ⟨by rfl, rfl⟩)
    try simp only [Act.put, List.setIfInBounds_toArray, List.set_cons_zero, List.set_cons_succ]
    refine wpAnyH_take (i := 17) (oi := { dst := some 107, op := Go.Op.pick (Go.Operand.tmp 91) (Go.Operand.tmp 106) (Go.Operand.const (Go.Value.bool false)), type := 4, pos := "keeps.go:45", after := #[{ on := 1, ground := Go.Ground.data }, { on := 16, ground := Go.Ground.data }], guard := none }) (v := (.bool true)) rfl (by kernel_rfl) (by kernel_rfl) (by kernel_rfl) (fun _ _ _ h => h) ?_ hS15 ?_
    · first | exact Or.inl ⟨by rfl, fun w hS => by have q1 := hS.box.1; have q2 := hS.box.2.1; go_simp⟩ | exact Or.inr ⟨by rfl, rfl⟩
    try simp only [Act.put, List.setIfInBounds_toArray, List.set_cons_zero, List.set_cons_succ]
    refine wpAnyH_take (i := 18) (oi := { dst := some 108, op := Go.Op.move (Go.Operand.tmp 107), type := 4, pos := "keeps.go:45", after := #[{ on := 17, ground := Go.Ground.data }, { on := 15, ground := Go.Ground.chain }], guard := none }) (v := (.bool true)) rfl (by kernel_rfl) (by kernel_rfl) (by kernel_rfl) (fun _ _ _ h => h) ?_ hS15 ?_
    · first | exact Or.inl ⟨by rfl, fun w hS => by have q1 := hS.box.1; have q2 := hS.box.2.1; go_simp⟩ | exact Or.inr ⟨by rfl, rfl⟩
    try simp only [Act.put, List.setIfInBounds_toArray, List.set_cons_zero, List.set_cons_succ]
    refine wpAnyH_take (i := 19) (oi := { dst := some 109, op := Go.Op.load 25 (Go.Operand.tmp 4), type := 25, pos := "keeps.go:45", after := #[{ on := 18, ground := Go.Ground.guard }], guard := some (18, true) }) (v := (.agg #[.slice A ns.length c, .slice B us.length d])) rfl (by kernel_rfl) (by kernel_rfl) (by kernel_rfl) (fun _ _ _ h => h) ?_ hS15 ?_
    · first | exact Or.inl ⟨by rfl, fun w hS => by have q1 := hS.box.1; have q2 := hS.box.2.1; go_simp⟩ | exact Or.inr ⟨by rfl, rfl⟩
    try simp only [Act.put, List.setIfInBounds_toArray, List.set_cons_zero, List.set_cons_succ]
    refine wpAnyH_take (i := 20) (oi := { dst := some 110, op := Go.Op.move (Go.Operand.tmp 13), type := 3, pos := "keeps.go:45", after := #[{ on := 18, ground := Go.Ground.guard }], guard := some (18, true) }) (v := (.int .i64 (v : Int))) rfl (by kernel_rfl) (by kernel_rfl) (by kernel_rfl) (fun _ _ _ h => h) ?_ hS15 ?_
    · first | exact Or.inl ⟨by rfl, fun w hS => by have q1 := hS.box.1; have q2 := hS.box.2.1; go_simp⟩ | exact Or.inr ⟨by rfl, rfl⟩
    try simp only [Act.put, List.setIfInBounds_toArray, List.set_cons_zero, List.set_cons_succ]
    refine wpAnyH_take (i := 21) (oi := { dst := some 111, op := Go.Op.move (Go.Operand.tmp 11), type := 3, pos := "keeps.go:45", after := #[{ on := 18, ground := Go.Ground.guard }], guard := some (18, true) }) (v := (.int .i64 (x : Int))) rfl (by kernel_rfl) (by kernel_rfl) (by kernel_rfl) (fun _ _ _ h => h) ?_ hS15 ?_
    · first | exact Or.inl ⟨by rfl, fun w hS => by have q1 := hS.box.1; have q2 := hS.box.2.1; go_simp⟩ | exact Or.inr ⟨by rfl, rfl⟩
    try simp only [Act.put, List.setIfInBounds_toArray, List.set_cons_zero, List.set_cons_succ]
    refine wpAnyH_take (i := 29) (oi := { dst := some 119, op := Go.Op.load 25 (Go.Operand.tmp 4), type := 25, pos := "keeps.go:45", after := #[{ on := 18, ground := Go.Ground.guard }], guard := some (18, true) }) (v := (.agg #[.slice A ns.length c, .slice B us.length d])) rfl (by kernel_rfl) (by kernel_rfl) (by kernel_rfl) (fun _ _ _ h => h) ?_ hS15 ?_
    · first | exact Or.inl ⟨by rfl, fun w hS => by have q1 := hS.box.1; have q2 := hS.box.2.1; go_simp⟩ | exact Or.inr ⟨by rfl, rfl⟩
    try simp only [Act.put, List.setIfInBounds_toArray, List.set_cons_zero, List.set_cons_succ]
    refine wpAnyH_take (i := 30) (oi := { dst := some 120, op := Go.Op.move (Go.Operand.tmp 13), type := 3, pos := "keeps.go:45", after := #[{ on := 18, ground := Go.Ground.guard }], guard := some (18, true) }) (v := (.int .i64 (v : Int))) rfl (by kernel_rfl) (by kernel_rfl) (by kernel_rfl) (fun _ _ _ h => h) ?_ hS15 ?_
    · first | exact Or.inl ⟨by rfl, fun w hS => by have q1 := hS.box.1; have q2 := hS.box.2.1; go_simp⟩ | exact Or.inr ⟨by rfl, rfl⟩
    try simp only [Act.put, List.setIfInBounds_toArray, List.set_cons_zero, List.set_cons_succ]
    refine wpAnyH_take (i := 31) (oi := { dst := some 121, op := Go.Op.move (Go.Operand.tmp 15), type := 3, pos := "keeps.go:45", after := #[{ on := 18, ground := Go.Ground.guard }], guard := some (18, true) }) (v := (.int .i64 (m : Int))) rfl (by kernel_rfl) (by kernel_rfl) (by kernel_rfl) (fun _ _ _ h => h) ?_ hS15 ?_
    · first | exact Or.inl ⟨by rfl, fun w hS => by have q1 := hS.box.1; have q2 := hS.box.2.1; go_simp⟩ | exact Or.inr ⟨by rfl, rfl⟩
    try simp only [Act.put, List.setIfInBounds_toArray, List.set_cons_zero, List.set_cons_succ]
    refine call_next (i := 22) (o := { dst := some 112, op := Go.Op.call { callee := Go.Callee.value (Go.Operand.func 16), args := #[Go.Operand.tmp 109, Go.Operand.tmp 110, Go.Operand.tmp 111], argTypes := #[25, 3, 3] }, type := 4, pos := "keeps.go:45", after := #[{ on := 19, ground := Go.Ground.data }, { on := 20, ground := Go.Ground.data }, { on := 21, ground := Go.Ground.data }, { on := 18, ground := Go.Ground.chain }, { on := 18, ground := Go.Ground.guard }], guard := some (18, true) }) (v := (.bool p4)) (by kernel_rfl) rfl hS15 ?_ ?_
    · intro w' hS K' hK0
      have hK := Lib.hid hK0
      clear hK0
      have q1 := hS.box.1
      have q2 := hS.box.2.1
      (rw [if_pos (by rfl)]; go_wp2_with fail; refine (at_leq hS _ _ E4.out).mono ?_; rintro e w' ⟨rfl, hX⟩; exact hK.out _ hX.out)
    intro wv25 hS25
    clear hS15
    try simp only [Act.put, List.setIfInBounds_toArray, List.set_cons_zero, List.set_cons_succ]
    refine wpAnyH_take (i := 23) (oi := { dst := some 113, op := Go.Op.move (Go.Operand.tmp 112), type := 4, pos := "keeps.go:45", after := #[{ on := 22, ground := Go.Ground.data }, { on := 22, ground := Go.Ground.chain }, { on := 18, ground := Go.Ground.guard }], guard := some (18, true) }) (v := (.bool p4)) rfl (by kernel_rfl) (by kernel_rfl) (by kernel_rfl) (fun _ _ _ h => h) ?_ hS25 ?_
    · first | exact Or.inl ⟨by rfl, fun w hS => by have q1 := hS.box.1; have q2 := hS.box.2.1; go_simp⟩ | exact Or.inr ⟨by rfl, rfl⟩
    try simp only [Act.put, List.setIfInBounds_toArray, List.set_cons_zero, List.set_cons_succ]
    refine wpAnyH_take (i := 24) (oi := { dst := some 114, op := Go.Op.load 25 (Go.Operand.tmp 4), type := 25, pos := "keeps.go:45", after := #[{ on := 23, ground := Go.Ground.guard }], guard := some (23, true) }) (v := (bif p4 then .agg #[.slice A ns.length c, .slice B us.length d] else undef)) rfl (by kernel_rfl) (by kernel_rfl) (by kernel_rfl) (fun _ _ _ h => h) ?_ hS25 ?_
    · cases p4 <;> (first | exact Or.inl ⟨by rfl, fun w hS => by have q1 := hS.box.1; have q2 := hS.box.2.1; go_simp⟩ | exact Or.inr ⟨by rfl, rfl⟩)
    try simp only [Act.put, List.setIfInBounds_toArray, List.set_cons_zero, List.set_cons_succ]
    refine wpAnyH_take (i := 25) (oi := { dst := some 115, op := Go.Op.move (Go.Operand.tmp 13), type := 3, pos := "keeps.go:45", after := #[{ on := 23, ground := Go.Ground.guard }], guard := some (23, true) }) (v := (bif p4 then .int .i64 (v : Int) else undef)) rfl (by kernel_rfl) (by kernel_rfl) (by kernel_rfl) (fun _ _ _ h => h) ?_ hS25 ?_
    · cases p4 <;> (first | exact Or.inl ⟨by rfl, fun w hS => by have q1 := hS.box.1; have q2 := hS.box.2.1; go_simp⟩ | exact Or.inr ⟨by rfl, rfl⟩)
    try simp only [Act.put, List.setIfInBounds_toArray, List.set_cons_zero, List.set_cons_succ]
    refine wpAnyH_take (i := 26) (oi := { dst := some 116, op := Go.Op.move (Go.Operand.tmp 12), type := 3, pos := "keeps.go:45", after := #[{ on := 23, ground := Go.Ground.guard }], guard := some (23, true) }) (v := (bif p4 then .int .i64 (y : Int) else undef)) rfl (by kernel_rfl) (by kernel_rfl) (by kernel_rfl) (fun _ _ _ h => h) ?_ hS25 ?_
    · cases p4 <;> (first | exact Or.inl ⟨by rfl, fun w hS => by have q1 := hS.box.1; have q2 := hS.box.2.1; go_simp⟩ | exact Or.inr ⟨by rfl, rfl⟩)
    try simp only [Act.put, List.setIfInBounds_toArray, List.set_cons_zero, List.set_cons_succ]
    refine call_next (i := 27) (o := { dst := some 117, op := Go.Op.call { callee := Go.Callee.value (Go.Operand.func 16), args := #[Go.Operand.tmp 114, Go.Operand.tmp 115, Go.Operand.tmp 116], argTypes := #[25, 3, 3] }, type := 4, pos := "keeps.go:45", after := #[{ on := 24, ground := Go.Ground.data }, { on := 25, ground := Go.Ground.data }, { on := 26, ground := Go.Ground.data }, { on := 23, ground := Go.Ground.chain }, { on := 23, ground := Go.Ground.guard }], guard := some (23, true) }) (v := (bif p4 then .bool p5 else undef)) (by kernel_rfl) rfl hS25 ?_ ?_
    · intro w' hS K' hK0
      have hK := Lib.hid hK0
      clear hK0
      have q1 := hS.box.1
      have q2 := hS.box.2.1
      cases p4
      · rw [if_neg (Bool.eq_false_iff.1 (by rfl))]; exact hK.out _ hS
      · (rw [if_pos (by rfl)]; go_wp2_with fail; refine (at_leq hS _ _ E5.out).mono ?_; rintro e w' ⟨rfl, hX⟩; exact hK.out _ hX.out)
    intro wv30 hS30
    clear hS25
    try simp only [Act.put, List.setIfInBounds_toArray, List.set_cons_zero, List.set_cons_succ]
    refine wpAnyH_take (i := 28) (oi := { dst := some 118, op := Go.Op.pick (Go.Operand.tmp 113) (Go.Operand.tmp 117) (Go.Operand.const (Go.Value.bool false)), type := 4, pos := "keeps.go:45", after := #[{ on := 23, ground := Go.Ground.data }, { on := 27, ground := Go.Ground.data }, { on := 18, ground := Go.Ground.guard }], guard := some (18, true) }) (v := (.bool (p4 && p5))) rfl (by kernel_rfl) (by kernel_rfl) (by kernel_rfl) (fun _ _ _ h => h) ?_ hS30 ?_
    · cases p4 <;> cases p5 <;> (first | exact Or.inl ⟨by rfl, fun w hS => by have q1 := hS.box.1; have q2 := hS.box.2.1; go_simp⟩ | exact Or.inr ⟨by rfl, rfl⟩)
    try simp only [Act.put, List.setIfInBounds_toArray, List.set_cons_zero, List.set_cons_succ]
    refine call_next (i := 32) (o := { dst := some 122, op := Go.Op.call { callee := Go.Callee.value (Go.Operand.func 16), args := #[Go.Operand.tmp 119, Go.Operand.tmp 120, Go.Operand.tmp 121], argTypes := #[25, 3, 3] }, type := 4, pos := "keeps.go:45", after := #[{ on := 29, ground := Go.Ground.data }, { on := 30, ground := Go.Ground.data }, { on := 31, ground := Go.Ground.data }, { on := 27, ground := Go.Ground.chain }, { on := 18, ground := Go.Ground.guard }], guard := some (18, true) }) (v := (.bool (p4 && p5))) (by kernel_rfl) rfl hS30 ?_ ?_
    · intro w' hS K' hK0
      have hK := Lib.hid hK0
      clear hK0
      have q1 := hS.box.1
      have q2 := hS.box.2.1
      (rw [if_pos (by rfl)]; go_wp2_with fail; refine (at_leq hS _ _ E6.out).mono ?_; rintro e w' ⟨rfl, hX⟩; exact hK.out _ hX.out)
    intro wv32 hS32
    clear hS30
    try simp only [Act.put, List.setIfInBounds_toArray, List.set_cons_zero, List.set_cons_succ]
    refine wpAnyH_take (i := 33) (oi := { dst := some 123, op := Go.Op.binOp Go.BinOp.eql 4 (Go.Operand.tmp 118) (Go.Operand.tmp 122) 4, type := 4, pos := "keeps.go:45", after := #[{ on := 28, ground := Go.Ground.data }, { on := 32, ground := Go.Ground.data }, { on := 18, ground := Go.Ground.guard }], guard := some (18, true) }) (v := (.bool true)) rfl (by kernel_rfl) (by kernel_rfl) (by kernel_rfl) (fun _ _ _ h => h) ?_ hS32 ?_
    · cases p4 <;> cases p5 <;> (first | exact Or.inl ⟨by rfl, fun w hS => by have q1 := hS.box.1; have q2 := hS.box.2.1; go_simp⟩ | exact Or.inr ⟨by rfl, rfl⟩)
    try simp only [Act.put, List.setIfInBounds_toArray, List.set_cons_zero, List.set_cons_succ]
    refine wpAnyH_take (i := 34) (oi := { dst := some 124, op := Go.Op.pick (Go.Operand.tmp 108) (Go.Operand.tmp 123) (Go.Operand.const (Go.Value.bool false)), type := 4, pos := "keeps.go:45", after := #[{ on := 18, ground := Go.Ground.data }, { on := 33, ground := Go.Ground.data }], guard := none }) (v := (.bool true)) rfl (by kernel_rfl) (by kernel_rfl) (by kernel_rfl) (fun _ _ _ h => h) ?_ hS32 ?_
    · first | exact Or.inl ⟨by rfl, fun w hS => by have q1 := hS.box.1; have q2 := hS.box.2.1; go_simp⟩ | exact Or.inr ⟨by rfl, rfl⟩
    try simp only [Act.put, List.setIfInBounds_toArray, List.set_cons_zero, List.set_cons_succ]
    refine wpAnyH_take (i := 35) (oi := { dst := some 125, op := Go.Op.move (Go.Operand.tmp 124), type := 4, pos := "keeps.go:45", after := #[{ on := 34, ground := Go.Ground.data }, { on := 32, ground := Go.Ground.chain }], guard := none }) (v := (.bool true)) rfl (by kernel_rfl) (by kernel_rfl) (by kernel_rfl) (fun _ _ _ h => h) ?_ hS32 ?_
    · first | exact Or.inl ⟨by rfl, fun w hS => by have q1 := hS.box.1; have q2 := hS.box.2.1; go_simp⟩ | exact Or.inr ⟨by rfl, rfl⟩
    try simp only [Act.put, List.setIfInBounds_toArray, List.set_cons_zero, List.set_cons_succ]
    refine wpAnyH_take (i := 36) (oi := { dst := some 126, op := Go.Op.load 25 (Go.Operand.tmp 4), type := 25, pos := "keeps.go:45", after := #[{ on := 35, ground := Go.Ground.guard }], guard := some (35, true) }) (v := (.agg #[.slice A ns.length c, .slice B us.length d])) rfl (by kernel_rfl) (by kernel_rfl) (by kernel_rfl) (fun _ _ _ h => h) ?_ hS32 ?_
    · first | exact Or.inl ⟨by rfl, fun w hS => by have q1 := hS.box.1; have q2 := hS.box.2.1; go_simp⟩ | exact Or.inr ⟨by rfl, rfl⟩
    try simp only [Act.put, List.setIfInBounds_toArray, List.set_cons_zero, List.set_cons_succ]
    refine wpAnyH_take (i := 37) (oi := { dst := some 127, op := Go.Op.move (Go.Operand.tmp 11), type := 3, pos := "keeps.go:45", after := #[{ on := 35, ground := Go.Ground.guard }], guard := some (35, true) }) (v := (.int .i64 (x : Int))) rfl (by kernel_rfl) (by kernel_rfl) (by kernel_rfl) (fun _ _ _ h => h) ?_ hS32 ?_
    · first | exact Or.inl ⟨by rfl, fun w hS => by have q1 := hS.box.1; have q2 := hS.box.2.1; go_simp⟩ | exact Or.inr ⟨by rfl, rfl⟩
    try simp only [Act.put, List.setIfInBounds_toArray, List.set_cons_zero, List.set_cons_succ]
    refine wpAnyH_take (i := 38) (oi := { dst := some 128, op := Go.Op.move (Go.Operand.tmp 12), type := 3, pos := "keeps.go:45", after := #[{ on := 35, ground := Go.Ground.guard }], guard := some (35, true) }) (v := (.int .i64 (y : Int))) rfl (by kernel_rfl) (by kernel_rfl) (by kernel_rfl) (fun _ _ _ h => h) ?_ hS32 ?_
    · first | exact Or.inl ⟨by rfl, fun w hS => by have q1 := hS.box.1; have q2 := hS.box.2.1; go_simp⟩ | exact Or.inr ⟨by rfl, rfl⟩
    try simp only [Act.put, List.setIfInBounds_toArray, List.set_cons_zero, List.set_cons_succ]
    refine wpAnyH_take (i := 40) (oi := { dst := some 130, op := Go.Op.move (Go.Operand.tmp 14), type := 3, pos := "keeps.go:45", after := #[{ on := 35, ground := Go.Ground.guard }], guard := some (35, true) }) (v := (.int .i64 (j : Int))) rfl (by kernel_rfl) (by kernel_rfl) (by kernel_rfl) (fun _ _ _ h => h) ?_ hS32 ?_
    · first | exact Or.inl ⟨by rfl, fun w hS => by have q1 := hS.box.1; have q2 := hS.box.2.1; go_simp⟩ | exact Or.inr ⟨by rfl, rfl⟩
    try simp only [Act.put, List.setIfInBounds_toArray, List.set_cons_zero, List.set_cons_succ]
    refine wpAnyH_take (i := 41) (oi := { dst := some 131, op := Go.Op.move (Go.Operand.tmp 12), type := 3, pos := "keeps.go:45", after := #[{ on := 35, ground := Go.Ground.guard }], guard := some (35, true) }) (v := (.int .i64 (y : Int))) rfl (by kernel_rfl) (by kernel_rfl) (by kernel_rfl) (fun _ _ _ h => h) ?_ hS32 ?_
    · first | exact Or.inl ⟨by rfl, fun w hS => by have q1 := hS.box.1; have q2 := hS.box.2.1; go_simp⟩ | exact Or.inr ⟨by rfl, rfl⟩
    try simp only [Act.put, List.setIfInBounds_toArray, List.set_cons_zero, List.set_cons_succ]
    refine wpAnyH_take (i := 42) (oi := { dst := some 132, op := Go.Op.binOp Go.BinOp.eql 3 (Go.Operand.tmp 130) (Go.Operand.tmp 131) 3, type := 4, pos := "keeps.go:45", after := #[{ on := 40, ground := Go.Ground.data }, { on := 41, ground := Go.Ground.data }, { on := 35, ground := Go.Ground.guard }], guard := some (35, true) }) (v := (.bool p7)) rfl (by kernel_rfl) (by kernel_rfl) (by kernel_rfl) (fun _ _ _ h => h) ?_ hS32 ?_
    · (rw [← G1.out]; exact Or.inl ⟨by rfl, fun w hS => by go_simp⟩)
    try simp only [Act.put, List.setIfInBounds_toArray, List.set_cons_zero, List.set_cons_succ]
    refine call_next (i := 39) (o := { dst := some 129, op := Go.Op.call { callee := Go.Callee.value (Go.Operand.func 16), args := #[Go.Operand.tmp 126, Go.Operand.tmp 127, Go.Operand.tmp 128], argTypes := #[25, 3, 3] }, type := 4, pos := "keeps.go:45", after := #[{ on := 36, ground := Go.Ground.data }, { on := 37, ground := Go.Ground.data }, { on := 38, ground := Go.Ground.data }, { on := 35, ground := Go.Ground.chain }, { on := 35, ground := Go.Ground.guard }], guard := some (35, true) }) (v := (.bool p7)) (by kernel_rfl) rfl hS32 ?_ ?_
    · intro w' hS K' hK0
      have hK := Lib.hid hK0
      clear hK0
      have q1 := hS.box.1
      have q2 := hS.box.2.1
      (rw [if_pos (by rfl)]; go_wp2_with fail; refine (at_leq hS _ _ E7.out).mono ?_; rintro e w' ⟨rfl, hX⟩; exact hK.out _ hX.out)
    intro wv42 hS42
    clear hS32
    try simp only [Act.put, List.setIfInBounds_toArray, List.set_cons_zero, List.set_cons_succ]
    refine wpAnyH_take (i := 43) (oi := { dst := some 133, op := Go.Op.binOp Go.BinOp.eql 4 (Go.Operand.tmp 129) (Go.Operand.tmp 132) 4, type := 4, pos := "keeps.go:45", after := #[{ on := 39, ground := Go.Ground.data }, { on := 42, ground := Go.Ground.data }, { on := 35, ground := Go.Ground.guard }], guard := some (35, true) }) (v := (.bool true)) rfl (by kernel_rfl) (by kernel_rfl) (by kernel_rfl) (fun _ _ _ h => h) ?_ hS42 ?_
    · cases p7 <;> (first | exact Or.inl ⟨by rfl, fun w hS => by have q1 := hS.box.1; have q2 := hS.box.2.1; go_simp⟩ | exact Or.inr ⟨by rfl, rfl⟩)
    try simp only [Act.put, List.setIfInBounds_toArray, List.set_cons_zero, List.set_cons_succ]
    refine wpAnyH_take (i := 44) (oi := { dst := some 134, op := Go.Op.pick (Go.Operand.tmp 125) (Go.Operand.tmp 133) (Go.Operand.const (Go.Value.bool false)), type := 4, pos := "keeps.go:45", after := #[{ on := 35, ground := Go.Ground.data }, { on := 43, ground := Go.Ground.data }], guard := none }) (v := (.bool true)) rfl (by kernel_rfl) (by kernel_rfl) (by kernel_rfl) (fun _ _ _ h => h) ?_ hS42 ?_
    · first | exact Or.inl ⟨by rfl, fun w hS => by have q1 := hS.box.1; have q2 := hS.box.2.1; go_simp⟩ | exact Or.inr ⟨by rfl, rfl⟩
    try simp only [Act.put, List.setIfInBounds_toArray, List.set_cons_zero, List.set_cons_succ]
    refine wpAnyH_take (i := 45) (oi := { dst := some 135, op := Go.Op.move (Go.Operand.tmp 134), type := 4, pos := "keeps.go:45", after := #[{ on := 44, ground := Go.Ground.data }, { on := 39, ground := Go.Ground.chain }], guard := none }) (v := (.bool true)) rfl (by kernel_rfl) (by kernel_rfl) (by kernel_rfl) (fun _ _ _ h => h) ?_ hS42 ?_
    · first | exact Or.inl ⟨by rfl, fun w hS => by have q1 := hS.box.1; have q2 := hS.box.2.1; go_simp⟩ | exact Or.inr ⟨by rfl, rfl⟩
    try simp only [Act.put, List.setIfInBounds_toArray, List.set_cons_zero, List.set_cons_succ]
    refine wpAnyH_take (i := 46) (oi := { dst := some 136, op := Go.Op.load 25 (Go.Operand.tmp 4), type := 25, pos := "keeps.go:45", after := #[{ on := 45, ground := Go.Ground.guard }], guard := some (45, true) }) (v := (.agg #[.slice A ns.length c, .slice B us.length d])) rfl (by kernel_rfl) (by kernel_rfl) (by kernel_rfl) (fun _ _ _ h => h) ?_ hS42 ?_
    · first | exact Or.inl ⟨by rfl, fun w hS => by have q1 := hS.box.1; have q2 := hS.box.2.1; go_simp⟩ | exact Or.inr ⟨by rfl, rfl⟩
    try simp only [Act.put, List.setIfInBounds_toArray, List.set_cons_zero, List.set_cons_succ]
    refine wpAnyH_take (i := 47) (oi := { dst := some 137, op := Go.Op.move (Go.Operand.tmp 11), type := 3, pos := "keeps.go:45", after := #[{ on := 45, ground := Go.Ground.guard }], guard := some (45, true) }) (v := (.int .i64 (x : Int))) rfl (by kernel_rfl) (by kernel_rfl) (by kernel_rfl) (fun _ _ _ h => h) ?_ hS42 ?_
    · first | exact Or.inl ⟨by rfl, fun w hS => by have q1 := hS.box.1; have q2 := hS.box.2.1; go_simp⟩ | exact Or.inr ⟨by rfl, rfl⟩
    try simp only [Act.put, List.setIfInBounds_toArray, List.set_cons_zero, List.set_cons_succ]
    refine wpAnyH_take (i := 48) (oi := { dst := some 138, op := Go.Op.move (Go.Operand.tmp 12), type := 3, pos := "keeps.go:45", after := #[{ on := 45, ground := Go.Ground.guard }], guard := some (45, true) }) (v := (.int .i64 (y : Int))) rfl (by kernel_rfl) (by kernel_rfl) (by kernel_rfl) (fun _ _ _ h => h) ?_ hS42 ?_
    · first | exact Or.inl ⟨by rfl, fun w hS => by have q1 := hS.box.1; have q2 := hS.box.2.1; go_simp⟩ | exact Or.inr ⟨by rfl, rfl⟩
    try simp only [Act.put, List.setIfInBounds_toArray, List.set_cons_zero, List.set_cons_succ]
    refine wpAnyH_take (i := 50) (oi := { dst := some 140, op := Go.Op.move (Go.Operand.tmp 15), type := 3, pos := "keeps.go:45", after := #[{ on := 45, ground := Go.Ground.guard }], guard := some (45, true) }) (v := (.int .i64 (m : Int))) rfl (by kernel_rfl) (by kernel_rfl) (by kernel_rfl) (fun _ _ _ h => h) ?_ hS42 ?_
    · first | exact Or.inl ⟨by rfl, fun w hS => by have q1 := hS.box.1; have q2 := hS.box.2.1; go_simp⟩ | exact Or.inr ⟨by rfl, rfl⟩
    try simp only [Act.put, List.setIfInBounds_toArray, List.set_cons_zero, List.set_cons_succ]
    refine wpAnyH_take (i := 51) (oi := { dst := some 141, op := Go.Op.move (Go.Operand.tmp 11), type := 3, pos := "keeps.go:45", after := #[{ on := 45, ground := Go.Ground.guard }], guard := some (45, true) }) (v := (.int .i64 (x : Int))) rfl (by kernel_rfl) (by kernel_rfl) (by kernel_rfl) (fun _ _ _ h => h) ?_ hS42 ?_
    · first | exact Or.inl ⟨by rfl, fun w hS => by have q1 := hS.box.1; have q2 := hS.box.2.1; go_simp⟩ | exact Or.inr ⟨by rfl, rfl⟩
    try simp only [Act.put, List.setIfInBounds_toArray, List.set_cons_zero, List.set_cons_succ]
    refine wpAnyH_take (i := 52) (oi := { dst := some 142, op := Go.Op.binOp Go.BinOp.eql 3 (Go.Operand.tmp 140) (Go.Operand.tmp 141) 3, type := 4, pos := "keeps.go:45", after := #[{ on := 50, ground := Go.Ground.data }, { on := 51, ground := Go.Ground.data }, { on := 45, ground := Go.Ground.guard }], guard := some (45, true) }) (v := (.bool p7)) rfl (by kernel_rfl) (by kernel_rfl) (by kernel_rfl) (fun _ _ _ h => h) ?_ hS42 ?_
    · (rw [← G2.out]; exact Or.inl ⟨by rfl, fun w hS => by go_simp⟩)
    try simp only [Act.put, List.setIfInBounds_toArray, List.set_cons_zero, List.set_cons_succ]
    refine call_next (i := 49) (o := { dst := some 139, op := Go.Op.call { callee := Go.Callee.value (Go.Operand.func 16), args := #[Go.Operand.tmp 136, Go.Operand.tmp 137, Go.Operand.tmp 138], argTypes := #[25, 3, 3] }, type := 4, pos := "keeps.go:45", after := #[{ on := 46, ground := Go.Ground.data }, { on := 47, ground := Go.Ground.data }, { on := 48, ground := Go.Ground.data }, { on := 45, ground := Go.Ground.chain }, { on := 45, ground := Go.Ground.guard }], guard := some (45, true) }) (v := (.bool p7)) (by kernel_rfl) rfl hS42 ?_ ?_
    · intro w' hS K' hK0
      have hK := Lib.hid hK0
      clear hK0
      have q1 := hS.box.1
      have q2 := hS.box.2.1
      (rw [if_pos (by rfl)]; go_wp2_with fail; refine (at_leq hS _ _ E7.out).mono ?_; rintro e w' ⟨rfl, hX⟩; exact hK.out _ hX.out)
    intro wv52 hS52
    clear hS42
    try simp only [Act.put, List.setIfInBounds_toArray, List.set_cons_zero, List.set_cons_succ]
    refine wpAnyH_take (i := 53) (oi := { dst := some 143, op := Go.Op.binOp Go.BinOp.eql 4 (Go.Operand.tmp 139) (Go.Operand.tmp 142) 4, type := 4, pos := "keeps.go:45", after := #[{ on := 49, ground := Go.Ground.data }, { on := 52, ground := Go.Ground.data }, { on := 45, ground := Go.Ground.guard }], guard := some (45, true) }) (v := (.bool true)) rfl (by kernel_rfl) (by kernel_rfl) (by kernel_rfl) (fun _ _ _ h => h) ?_ hS52 ?_
    · cases p7 <;> (first | exact Or.inl ⟨by rfl, fun w hS => by have q1 := hS.box.1; have q2 := hS.box.2.1; go_simp⟩ | exact Or.inr ⟨by rfl, rfl⟩)
    try simp only [Act.put, List.setIfInBounds_toArray, List.set_cons_zero, List.set_cons_succ]
    refine wpAnyH_take (i := 54) (oi := { dst := some 144, op := Go.Op.pick (Go.Operand.tmp 135) (Go.Operand.tmp 143) (Go.Operand.const (Go.Value.bool false)), type := 4, pos := "keeps.go:45", after := #[{ on := 45, ground := Go.Ground.data }, { on := 53, ground := Go.Ground.data }], guard := none }) (v := (.bool true)) rfl (by kernel_rfl) (by kernel_rfl) (by kernel_rfl) (fun _ _ _ h => h) ?_ hS52 ?_
    · first | exact Or.inl ⟨by rfl, fun w hS => by have q1 := hS.box.1; have q2 := hS.box.2.1; go_simp⟩ | exact Or.inr ⟨by rfl, rfl⟩
    try simp only [Act.put, List.setIfInBounds_toArray, List.set_cons_zero, List.set_cons_succ]
    refine wpAnyH_take (i := 55) (oi := { dst := some 8, op := Go.Op.assign (Go.Operand.tmp 144), type := 4, pos := "keeps.go:45", after := #[{ on := 54, ground := Go.Ground.data }, { on := 49, ground := Go.Ground.chain }, { on := 0, ground := Go.Ground.phase }, { on := 1, ground := Go.Ground.phase }, { on := 2, ground := Go.Ground.phase }, { on := 3, ground := Go.Ground.phase }, { on := 4, ground := Go.Ground.phase }, { on := 5, ground := Go.Ground.phase }, { on := 6, ground := Go.Ground.phase }, { on := 7, ground := Go.Ground.phase }, { on := 8, ground := Go.Ground.phase }, { on := 9, ground := Go.Ground.phase }, { on := 10, ground := Go.Ground.phase }, { on := 11, ground := Go.Ground.phase }, { on := 12, ground := Go.Ground.phase }, { on := 13, ground := Go.Ground.phase }, { on := 14, ground := Go.Ground.phase }, { on := 15, ground := Go.Ground.phase }, { on := 16, ground := Go.Ground.phase }, { on := 17, ground := Go.Ground.phase }, { on := 18, ground := Go.Ground.phase }, { on := 19, ground := Go.Ground.phase }, { on := 20, ground := Go.Ground.phase }, { on := 21, ground := Go.Ground.phase }, { on := 22, ground := Go.Ground.phase }, { on := 23, ground := Go.Ground.phase }, { on := 24, ground := Go.Ground.phase }, { on := 25, ground := Go.Ground.phase }, { on := 26, ground := Go.Ground.phase }, { on := 27, ground := Go.Ground.phase }, { on := 28, ground := Go.Ground.phase }, { on := 29, ground := Go.Ground.phase }, { on := 30, ground := Go.Ground.phase }, { on := 31, ground := Go.Ground.phase }, { on := 32, ground := Go.Ground.phase }, { on := 33, ground := Go.Ground.phase }, { on := 34, ground := Go.Ground.phase }, { on := 35, ground := Go.Ground.phase }, { on := 36, ground := Go.Ground.phase }, { on := 37, ground := Go.Ground.phase }, { on := 38, ground := Go.Ground.phase }, { on := 39, ground := Go.Ground.phase }, { on := 40, ground := Go.Ground.phase }, { on := 41, ground := Go.Ground.phase }, { on := 42, ground := Go.Ground.phase }, { on := 43, ground := Go.Ground.phase }, { on := 44, ground := Go.Ground.phase }, { on := 45, ground := Go.Ground.phase }, { on := 46, ground := Go.Ground.phase }, { on := 47, ground := Go.Ground.phase }, { on := 48, ground := Go.Ground.phase }, { on := 49, ground := Go.Ground.phase }, { on := 50, ground := Go.Ground.phase }, { on := 51, ground := Go.Ground.phase }, { on := 52, ground := Go.Ground.phase }, { on := 53, ground := Go.Ground.phase }, { on := 54, ground := Go.Ground.phase }], guard := none }) (v := (.bool true)) rfl (by kernel_rfl) (by kernel_rfl) (by kernel_rfl) (fun _ _ _ h => h) ?_ hS52 ?_
    · first | exact Or.inl ⟨by rfl, fun w hS => by have q1 := hS.box.1; have q2 := hS.box.2.1; go_simp⟩ | exact Or.inr ⟨by rfl, rfl⟩
    try simp only [Act.put, List.setIfInBounds_toArray, List.set_cons_zero, List.set_cons_succ]
    refine wpAnyH_done (by kernel_rfl) ?_ _
    go_wp2
    go_ret
    exact ⟨rfl, hS52.below⟩
end Go.Proofs.YtjeelebppfhmlaaDoor
