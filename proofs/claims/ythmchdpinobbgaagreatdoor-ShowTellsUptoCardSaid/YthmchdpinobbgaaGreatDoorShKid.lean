/-
  layKid: a kid's tokens. Condition: the term by itself is laid as it should be.
-/
import Derived.Test.YthmchdpinobbgaaGreatDoorShLay
import Derived.Test.YthmchdpinobbgaaGreatDoorShMath2
namespace Go.Proofs.YthmchdpinobbgaaGreatDoor
open Go.RowKit Go.Shelf Go.Tm Go.Lx Go.Maps
attribute [local go_sem] Oper.semAt_some

theorem mark_ok (t : List UInt8) : partOk (.inl (mTok t)) := .inl ⟨.inr (.inr rfl), rfl⟩
theorem LayPost.of {base : Nat} {ts new : List Tok} {w V w' : World} {v v1 v' : Value} (hg : Gr w V v v1) (h : LayPost base ts new V v1 v' w') : LayPost base ts new w v v' w' := ⟨h.1, hg.trans h.2⟩
theorem LayPost.app {base : Nat} {ts a b : List Tok} {w V w' : World} {v v1 v' : Value} (h : LayPost base ts a w v v1 V) (k : LayPost base (ts ++ a) b V v1 v' w') : LayPost base ts (a ++ b) w v v' w' := ⟨by rw [← List.append_assoc]; exact k.1, h.2.trans k.2⟩
/-- a list of parts that is new -/
theorem parts_new (V : World) (v : Value) (hv : ∀ k, v.ownBlock = some k → k < V.heap.size) (ps : List Pt) (ty : TypeId) : Parts (V.alloc (.cells (ps.map partV).toArray ty)) v (some ⟨V.heap.size, 0, none⟩) ps := .inr ⟨V.heap.size, 0, rfl, ⟨by simp, fun e => by have := hv _ e; omega⟩, fun j hj => by
  rw [Nat.zero_add, cell_of_row _ V.heap.size j _ _ _ (World.alloc_heap_new V _), List.getElem?_toArray, List.getElem?_map, List.getD_eq_getElem?_getD, List.getElem?_eq_getElem hj]; rfl⟩
theorem own_lt3 {W : World} {base size n : Nat} {e : TypeId} {v : Value} {xs : List Value} (h : W.ownsRow base e size v n xs) (k : Nat) (hk : v.ownBlock = some k) : k < W.heap.size := by
  obtain ⟨cur, hc, _⟩ := own_at h hk
  exact World.lt_of_get hc
/-- lay at a new list of parts -/
theorem lay_new (ps : List Pt) (hps : ∀ p ∈ ps, partOk p) (HK : ∀ u, .inr u ∈ ps → KidStmt u.1) (base : Nat) (v : Value) (ts : List Tok) (c : Nat) (V : World) (ty : TypeId) (h8 : 8 ≤ base) (hbase : base ≤ V.heap.size) (hE : EnvT V)
    (hown : V.ownsRow base 45 3 v ts.length (toksC ts)) (hT : ∀ u, .inr u ∈ ps → TmV V (Out V v) u.1 u.2.1 u.2.2) (hl : ts.length + (ps.flatMap partT).length ≤ 1099511627776) (hpl : ps.length ≤ 1099511627776) :
    Calls Tryz.prog 31 #[v, .slice (some ⟨V.heap.size, 0, none⟩) ps.length c] (V.alloc (.cells (ps.map partV).toArray ty)) fun e w' => ∃ v', e = .returned v' ∧ LayPost base ts (ps.flatMap partT) V v v' w' := by
  have hb := later_alloc V (.cells (ps.map partV).toArray ty)
  have hg : Gr V (V.alloc (.cells (ps.map partV).toArray ty)) v v := Gr.of_below hb
  exact (lay_any ps hps HK base v ts _ c _ h8 (Nat.le_trans hbase hb.size) (hE.below (Nat.le_refl _) (hb.mono hE.size)) (own_alloc3 hown _) (parts_new V v (own_lt3 hown) ps ty) (fun u hu => hg.tm (hT u hu)) hl hpl).mono fun e w' ⟨v', h1, h2⟩ => ⟨v', h1, h2.of hg⟩

set_option maxRecDepth 100000 in
set_option maxHeartbeats 4000000 in
theorem layKid_any (u : Go.Tm.T) (HL : LaidStmt u) : KidStmt u := fun base v ts A c w h8 hbase hE hown hT hl => by
  have hbV : Below w.heap.size w (w.alloc (.cells #[.int .i64 u.kind, .string u.name, .int .i64 u.num, .slice A u.kids.length c] 24)) := later_alloc _ _
  have hbx : (w.alloc (.cells #[.int .i64 u.kind, .string u.name, .int .i64 u.num, .slice A u.kids.length c] 24)).heap[w.heap.size]? = some (.cells #[.int .i64 u.kind, .string u.name, .int .i64 u.num, .slice A u.kids.length c] 24 (0, 0)) := World.alloc_heap_new _ _
  have hVs : (w.alloc (.cells #[.int .i64 u.kind, .string u.name, .int .i64 u.num, .slice A u.kids.length c] 24)).heap.size = w.heap.size + 1 := by simp
  have hol := own_lt3 hown
  unfold LaidStmt at HL
  unfold tmV at HL ⊢
  obtain ⟨V, hV⟩ : ∃ V, w.alloc (.cells #[.int .i64 u.kind, .string u.name, .int .i64 u.num, .slice A u.kids.length c] 24) = V := ⟨_, rfl⟩
  rw [hV] at hbV hbx hVs
  have hgV : Gr w V v v := Gr.of_below hbV
  have hEV := hE.below (Nat.le_refl _) (hbV.mono hE.size)
  have hOV := own_below3 hown hbV
  have hTV := hgV.tm hT
  have hbs : base ≤ V.heap.size := Nat.le_trans hbase hbV.size
  have hout : Out V v w.heap.size := ⟨by omega, fun e => by have := hol _ e; omega⟩
  have hkt : Hid ((leafK u.kind = true → kidT u = toksT u) ∧ (leafK u.kind = false → kidT u = mTok [40] :: (toksT u ++ [mTok [41]]))) := ⟨kid_leaf, kid_wrap⟩
  have i0 := cell_of_row V w.heap.size 0 _ _ _ hbx
  have i1 := cell_of_row V w.heap.size 1 _ _ _ hbx
  have i2 := cell_of_row V w.heap.size 2 _ _ _ hbx
  have i3 := cell_of_row V w.heap.size 3 _ _ _ hbx
  have hlv : w.heap.size < V.heap.size := by omega
  clear hol hbV hE hown hT
  replace hVs := Lib.hid hVs
  replace hbx := Lib.hid hbx
  replace hV := Lib.hid hV
  cases hlf : leafK u.kind with
  | true =>
    have hk2 := hkt.out.1 hlf
    rw [hk2] at hl
    have kl := Lib.hid (HL base v ts A c V h8 hbs hEV hOV hTV hl)
    replace hk2 := Lib.hid hk2
    have hend : Hid (∀ v' w', LayPost base ts (toksT u) V v v' w' → LayPost base ts (kidT u) w v v' w') := fun v' w' h => by rw [hk2.out]; exact h.of hgV
    replace hgV := Lib.hid hgV
    clear HL hEV hOV hTV hout hkt
    cases h1 : (u.kind == 1) with
    | true =>
      clear hlf
      go_enter Tryz.func55, Tryz.ntmps55
      go_wp2_with fail
      try rw [hV.out]
      go_wp2_with fail
      refine kl.out.mono ?_
      rintro e w1 ⟨v1, rfl, hp⟩
      replace hp := Lib.hid (hend.out _ _ hp)
      go_wp2_with fail
      go_ret
      exact ⟨_, rfl, hp.out⟩
    | false =>
      have h2 : (u.kind == 2) = true := by unfold leafK at hlf; rw [h1] at hlf; simpa using hlf
      clear hlf
      go_enter Tryz.func55, Tryz.ntmps55
      go_wp2_with fail
      try rw [hV.out]
      go_wp2_with fail
      refine kl.out.mono ?_
      rintro e w1 ⟨v1, rfl, hp⟩
      replace hp := Lib.hid (hend.out _ _ hp)
      go_wp2_with fail
      go_ret
      exact ⟨_, rfl, hp.out⟩
  | false =>
    have hk2 := hkt.out.2 hlf
    have hl2 : ts.length + (toksT u).length + 2 ≤ 1099511627776 := by rw [hk2] at hl; simp at hl; omega
    have h1 : (u.kind == 1) = false := by unfold leafK at hlf; cases h : (u.kind == 1) <;> rw [h] at hlf <;> simp_all
    have h2 : (u.kind == 2) = false := by unfold leafK at hlf; cases h : (u.kind == 2) <;> rw [h] at hlf <;> simp_all
    have k1 := lay_new [.inl (mTok [40])] (fun p hp => by obtain rfl := List.mem_singleton.1 hp; exact mark_ok _) (fun u hu => by cases List.mem_singleton.1 hu) base v ts 1 V 98 h8 hbs hEV hOV (fun u hu => by cases List.mem_singleton.1 hu) (by show ts.length + 1 ≤ _; omega) (by decide)
    replace k1 : Calls Tryz.prog 31 #[v, .slice (some ⟨V.heap.size, 0, none⟩) 1 1] (V.alloc (.cells #[.iface 77 (.string ⟨#[40]⟩)] 98)) fun e w' => ∃ v', e = .returned v' ∧ LayPost base ts [mTok [40]] V v v' w' := k1
    rw [hVs.out] at k1
    replace k1 := Lib.hid k1
    have hob := Lib.hid (fun k hk => (own_at hOV (g := k) hk).choose_spec.2)
    replace hk2 := Lib.hid hk2
    replace HL := Lib.hid HL
    replace hEV := Lib.hid hEV
    replace hTV := Lib.hid hTV
    replace hgV := Lib.hid hgV
    replace hout := Lib.hid hout
    clear hlf hOV hkt hl
    go_enter Tryz.func55, Tryz.ntmps55
    go_wp2_with fail
    try rw [hV.out]
    go_wp2_with fail
    refine k1.out.mono ?_
    rintro e w1 ⟨v1, rfl, hp1⟩
    clear k1 i0 i1 i2 i3
    have hx1 := (hp1.2.out hout.out).2.trans hbx.out
    have ho1 := (hp1.2.out hout.out).1
    have hb1 := hp1.2.below hbs hob.out
    have hbs1 : base ≤ w1.heap.size := Nat.le_trans hbs hb1.size
    have hE1 := hEV.out.below h8 hb1
    have kl := Lib.hid (HL.out base v1 (ts ++ [mTok [40]]) A c w1 h8 hbs1 hE1 hp1.1 (hp1.2.tm hTV.out) (by rw [List.length_append]; show ts.length + 1 + _ ≤ _; omega))
    have i0 := cell_of_row w1 w.heap.size 0 _ _ _ hx1
    have i1 := cell_of_row w1 w.heap.size 1 _ _ _ hx1
    have i2 := cell_of_row w1 w.heap.size 2 _ _ _ hx1
    have i3 := cell_of_row w1 w.heap.size 3 _ _ _ hx1
    have hl1 := World.lt_of_get hx1
    replace hp1 := Lib.hid hp1
    replace hE1 := Lib.hid hE1
    replace ho1 := Lib.hid ho1
    clear hx1 hb1
    go_wp2_with fail
    refine kl.out.mono ?_
    rintro e w2 ⟨v2, rfl, hp2⟩
    clear kl i0 i1 i2 i3
    have hb2 := hp2.2.below hbs1 (fun k hk => (own_at hp1.out.1 (g := k) hk).choose_spec.2)
    have hbs2 : base ≤ w2.heap.size := Nat.le_trans hbs1 hb2.size
    have hE2 := hE1.out.below h8 hb2
    have k3 := lay_new [.inl (mTok [41])] (fun p hp => by obtain rfl := List.mem_singleton.1 hp; exact mark_ok _) (fun u hu => by cases List.mem_singleton.1 hu) base v2 _ 1 w2 98 h8 hbs2 hE2 hp2.1 (fun u hu => by cases List.mem_singleton.1 hu) (by rw [List.length_append, List.length_append]; show ts.length + 1 + _ + 1 ≤ _; omega) (by decide)
    replace k3 : Calls Tryz.prog 31 #[v2, .slice (some ⟨w2.heap.size, 0, none⟩) 1 1] (w2.alloc (.cells #[.iface 77 (.string ⟨#[41]⟩)] 98)) fun e w' => ∃ v', e = .returned v' ∧ LayPost base ((ts ++ [mTok [40]]) ++ toksT u) [mTok [41]] w2 v2 v' w' := k3
    replace k3 := Lib.hid k3
    replace hp2 := Lib.hid hp2
    clear hb2 hE2
    go_wp2_with fail
    refine k3.out.mono ?_
    rintro e w3 ⟨v3, rfl, hp3⟩
    have hend : Hid (LayPost base ts (kidT u) w v v3 w3) := by
      show LayPost _ _ _ _ _ _ _
      have h := (hp1.out.app (hp2.out.app hp3)).of hgV.out
      rw [hk2.out]
      exact h
    clear hp3 k3
    go_wp2_with fail
    go_ret
    exact ⟨_, rfl, hend.out⟩
end Go.Proofs.YthmchdpinobbgaaGreatDoor
