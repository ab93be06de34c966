/-
  laid: a term's tokens, a kind each. Condition: its kids are laid as they should be.
-/
import Derived.Test.YthmchdpinobbgaaGreatDoorShKid
import Derived.Deep.RegionHeld3
import Derived.Deep.DrawnRows
namespace Go.Proofs.YthmchdpinobbgaaGreatDoor
open Go.RowKit Go.Shelf Go.Tm Go.Lx Go.Maps
attribute [local go_sem] Oper.semAt_some

set_option maxRecDepth 100000 in
set_option maxHeartbeats 4000000 in
theorem laid_1 (n : Int) (h0 : 0 ≤ n) (h1 : n ≤ 2147483647)   : LaidStmt (.node 1 ⟨#[]⟩ n []) := fun base v ts A c w h8 hbase hE hown hT hl => by
  have hbV : Below w.heap.size w (w.alloc (.cells #[.int .i64 1, .string ⟨#[]⟩, .int .i64 n, .slice A 0 c] 24)) := later_alloc _ _
  have hbx : (w.alloc (.cells #[.int .i64 1, .string ⟨#[]⟩, .int .i64 n, .slice A 0 c] 24)).heap[w.heap.size]? = some (.cells #[.int .i64 1, .string ⟨#[]⟩, .int .i64 n, .slice A 0 c] 24 (0, 0)) := World.alloc_heap_new _ _
  have hVs : (w.alloc (.cells #[.int .i64 1, .string ⟨#[]⟩, .int .i64 n, .slice A 0 c] 24)).heap.size = w.heap.size + 1 := by simp
  show Calls Tryz.prog 17 #[v, .agg #[.int .i64 1, .string ⟨#[]⟩, .int .i64 n, .slice A 0 c]] w _
  obtain ⟨V, hV⟩ : ∃ V, w.alloc (.cells #[.int .i64 1, .string ⟨#[]⟩, .int .i64 n, .slice A 0 c] 24) = V := ⟨_, rfl⟩
  rw [hV] at hbV hbx hVs
  have hbW : Below w.heap.size w V := hbV
  have hgW : Gr w V v v := Gr.of_below hbW
  have hEW := hE.below (Nat.le_refl _) (hbW.mono hE.size)
  have hOW := own_below3 hown hbW
  have hTW := hgW.tm hT
  have hbs : base ≤ (V).heap.size := Nat.le_trans hbase hbW.size
  have i0 := cell_of_row V w.heap.size 0 _ _ _ hbx
  have i1 := cell_of_row V w.heap.size 1 _ _ _ hbx
  have i2 := cell_of_row V w.heap.size 2 _ _ _ hbx
  have i3 := cell_of_row V w.heap.size 3 _ _ _ hbx
  have hlv : w.heap.size < V.heap.size := by omega
  have hlen : ts.length + (([.inl (dTok n)] : List Pt).flatMap partT).length ≤ 1099511627776 := by rw [toks_1] at hl; simpa [partT] using hl
  have hok : ∀ p ∈ ([.inl (dTok n)] : List Pt), partOk p := by
    intro p hp
    simp only [List.mem_cons, List.not_mem_nil, or_false] at hp
    subst hp; exact .inr ⟨rfl, h0, h1, rfl⟩
  have hkk : ∀ u, .inr u ∈ ([.inl (dTok n)] : List Pt) → KidStmt u.1 := by
    intro u hu
    simp at hu
  have htt : ∀ u, .inr u ∈ ([.inl (dTok n)] : List Pt) → TmV V (Out V v) u.1 u.2.1 u.2.2 := by
    intro u hu
    simp at hu
  have kl0 := lay_new [.inl (dTok n)] hok hkk base v ts 1 V 98 h8 hbs hEW hOW htt hlen (by show 1 ≤ _; decide)
  have kl : Calls Tryz.prog 31 #[v, .slice (some ⟨V.heap.size, 0, none⟩) 1 1] (V.alloc (.cells #[.iface 74 (.int .i64 n)] 98)) fun e w' => ∃ v', e = .returned v' ∧ LayPost base ts (([.inl (dTok n)] : List Pt).flatMap partT) V v v' w' := kl0
  rw [hVs] at kl
  replace kl := Lib.hid kl
  have hend : Hid (∀ v' w', LayPost base ts (([.inl (dTok n)] : List Pt).flatMap partT) V v v' w' → LayPost base ts (toksT (.node 1 ⟨#[]⟩ n [])) w v v' w') := fun v' w' h => by
    have e : toksT (.node 1 ⟨#[]⟩ n []) = ([.inl (dTok n)] : List Pt).flatMap partT := by rw [toks_1]; first | rfl | simp [partT]
    rw [e]; exact h.of hgW
  clear kl0 hbV hbW hgW hEW hOW hTW hT hown hE hok hkk htt hlen hl
  replace hbx := Lib.hid hbx
  replace hV := Lib.hid hV
  go_enter Tryz.func17, Tryz.ntmps17
  go_wp2_with fail
  try rw [hV.out]
  go_wp2_with fail
  refine kl.out.mono ?_
  rintro e w1 ⟨v1, rfl, hp⟩
  replace hp := Lib.hid (hend.out _ _ hp)
  clear kl
  go_wp2_with fail
  go_ret
  exact ⟨_, rfl, hp.out⟩

set_option maxRecDepth 100000 in
set_option maxHeartbeats 4000000 in
theorem laid_2 (s : ByteArray)    : LaidStmt (.node 2 s 0 []) := fun base v ts A c w h8 hbase hE hown hT hl => by
  have hbV : Below w.heap.size w (w.alloc (.cells #[.int .i64 2, .string s, .int .i64 0, .slice A 0 c] 24)) := later_alloc _ _
  have hbx : (w.alloc (.cells #[.int .i64 2, .string s, .int .i64 0, .slice A 0 c] 24)).heap[w.heap.size]? = some (.cells #[.int .i64 2, .string s, .int .i64 0, .slice A 0 c] 24 (0, 0)) := World.alloc_heap_new _ _
  have hVs : (w.alloc (.cells #[.int .i64 2, .string s, .int .i64 0, .slice A 0 c] 24)).heap.size = w.heap.size + 1 := by simp
  show Calls Tryz.prog 17 #[v, .agg #[.int .i64 2, .string s, .int .i64 0, .slice A 0 c]] w _
  obtain ⟨V, hV⟩ : ∃ V, w.alloc (.cells #[.int .i64 2, .string s, .int .i64 0, .slice A 0 c] 24) = V := ⟨_, rfl⟩
  rw [hV] at hbV hbx hVs
  have hbW : Below w.heap.size w V := hbV
  have hgW : Gr w V v v := Gr.of_below hbW
  have hEW := hE.below (Nat.le_refl _) (hbW.mono hE.size)
  have hOW := own_below3 hown hbW
  have hTW := hgW.tm hT
  have hbs : base ≤ (V).heap.size := Nat.le_trans hbase hbW.size
  have i0 := cell_of_row V w.heap.size 0 _ _ _ hbx
  have i1 := cell_of_row V w.heap.size 1 _ _ _ hbx
  have i2 := cell_of_row V w.heap.size 2 _ _ _ hbx
  have i3 := cell_of_row V w.heap.size 3 _ _ _ hbx
  have hlv : w.heap.size < V.heap.size := by omega
  have hlen : ts.length + (([.inl (nTok s.data.toList)] : List Pt).flatMap partT).length ≤ 1099511627776 := by rw [toks_2] at hl; simpa [partT] using hl
  have hok : ∀ p ∈ ([.inl (nTok s.data.toList)] : List Pt), partOk p := by
    intro p hp
    simp only [List.mem_cons, List.not_mem_nil, or_false] at hp
    subst hp; exact .inl ⟨.inl rfl, rfl⟩
  have hkk : ∀ u, .inr u ∈ ([.inl (nTok s.data.toList)] : List Pt) → KidStmt u.1 := by
    intro u hu
    simp at hu
  have htt : ∀ u, .inr u ∈ ([.inl (nTok s.data.toList)] : List Pt) → TmV V (Out V v) u.1 u.2.1 u.2.2 := by
    intro u hu
    simp at hu
  have kl0 := lay_new [.inl (nTok s.data.toList)] hok hkk base v ts 1 V 98 h8 hbs hEW hOW htt hlen (by show 1 ≤ _; decide)
  have kl : Calls Tryz.prog 31 #[v, .slice (some ⟨V.heap.size, 0, none⟩) 1 1] (V.alloc (.cells #[.iface 75 (.string s)] 98)) fun e w' => ∃ v', e = .returned v' ∧ LayPost base ts (([.inl (nTok s.data.toList)] : List Pt).flatMap partT) V v v' w' := kl0
  rw [hVs] at kl
  replace kl := Lib.hid kl
  have hend : Hid (∀ v' w', LayPost base ts (([.inl (nTok s.data.toList)] : List Pt).flatMap partT) V v v' w' → LayPost base ts (toksT (.node 2 s 0 [])) w v v' w') := fun v' w' h => by
    have e : toksT (.node 2 s 0 []) = ([.inl (nTok s.data.toList)] : List Pt).flatMap partT := by rw [toks_2]; first | rfl | simp [partT]
    rw [e]; exact h.of hgW
  clear kl0 hbV hbW hgW hEW hOW hTW hT hown hE hok hkk htt hlen hl
  replace hbx := Lib.hid hbx
  replace hV := Lib.hid hV
  go_enter Tryz.func17, Tryz.ntmps17
  go_wp2_with fail
  try rw [hV.out]
  go_wp2_with fail
  refine kl.out.mono ?_
  rintro e w1 ⟨v1, rfl, hp⟩
  replace hp := Lib.hid (hend.out _ _ hp)
  clear kl
  go_wp2_with fail
  go_ret
  exact ⟨_, rfl, hp.out⟩

set_option maxRecDepth 100000 in
set_option maxHeartbeats 4000000 in
theorem laid_3 (s : ByteArray)  (a : Go.Tm.T) (Ha : KidStmt a) : LaidStmt (.node 3 s 0 [a]) := fun base v ts A c w h8 hbase hE hown hT hl => by
  have hbV : Below w.heap.size w (w.alloc (.cells #[.int .i64 3, .string s, .int .i64 0, .slice A 1 c] 24)) := later_alloc _ _
  have hbx : (w.alloc (.cells #[.int .i64 3, .string s, .int .i64 0, .slice A 1 c] 24)).heap[w.heap.size]? = some (.cells #[.int .i64 3, .string s, .int .i64 0, .slice A 1 c] 24 (0, 0)) := World.alloc_heap_new _ _
  have hVs : (w.alloc (.cells #[.int .i64 3, .string s, .int .i64 0, .slice A 1 c] 24)).heap.size = w.heap.size + 1 := by simp
  show Calls Tryz.prog 17 #[v, .agg #[.int .i64 3, .string s, .int .i64 0, .slice A 1 c]] w _
  obtain ⟨V, hV⟩ : ∃ V, w.alloc (.cells #[.int .i64 3, .string s, .int .i64 0, .slice A 1 c] 24) = V := ⟨_, rfl⟩
  rw [hV] at hbV hbx hVs
  have hbW : Below w.heap.size w V.drew := hbV.drew
  have hgW : Gr w V.drew v v := Gr.of_below hbW
  have hEW := hE.below (Nat.le_refl _) (hbW.mono hE.size)
  have hOW := own_below3 hown hbW
  have hTW := hgW.tm hT
  have hbs : base ≤ (V.drew).heap.size := Nat.le_trans hbase hbW.size
  have i0 := cell_of_row V w.heap.size 0 _ _ _ hbx
  have i1 := cell_of_row V w.heap.size 1 _ _ _ hbx
  have i2 := cell_of_row V w.heap.size 2 _ _ _ hbx
  have i3 := cell_of_row V w.heap.size 3 _ _ _ hbx
  have hlv : w.heap.size < V.heap.size := by omega
  have hob : Out V.drew v w.heap.size := ⟨hlv, fun e => by have := own_lt3 hown _ e; omega⟩
  obtain ⟨kb, ko, rfl, hrow⟩ := hTW.row.resolve_left (fun e => by cases e)
  obtain ⟨Aa, ca, hha, hva⟩ := node_tmv (hrow.get 0 (by show _ < 1; decide))
  replace hva : TmV V.drew (Out V.drew v) a Aa ca := hva
  have ac0 : V.cell? ⟨kb, ko, none⟩ = some (.int .i64 a.kind) := hha.kind
  have ac1 : V.cell? ⟨kb, ko + 1, none⟩ = some (.string a.name) := hha.name
  have ac2 : V.cell? ⟨kb, ko + 2, none⟩ = some (.int .i64 a.num) := hha.num
  have ac3 : V.cell? ⟨kb, ko + 3, none⟩ = some (.slice Aa a.kids.length ca) := hha.kids
  have hkba : kb < V.heap.size := hha.at_.1
  have hokb : Out V.drew v kb := hha.at_
  clear hha
  clear hrow
  have hlen : ts.length + (([.inl (kTok [102, 117, 110]), .inl (nTok s.data.toList), .inl (mTok [61, 62]), .inr (a, Aa, ca)] : List Pt).flatMap partT).length ≤ 1099511627776 := by rw [toks_3] at hl; simpa [partT] using hl
  have hok : ∀ p ∈ ([.inl (kTok [102, 117, 110]), .inl (nTok s.data.toList), .inl (mTok [61, 62]), .inr (a, Aa, ca)] : List Pt), partOk p := by
    intro p hp
    simp only [List.mem_cons, List.not_mem_nil, or_false] at hp
    rcases hp with rfl | rfl | rfl | rfl
    · exact .inl ⟨.inr (.inl rfl), rfl⟩
    · exact .inl ⟨.inl rfl, rfl⟩
    · exact .inl ⟨.inr (.inr rfl), rfl⟩
    · exact trivial
  have hkk : ∀ u, .inr u ∈ ([.inl (kTok [102, 117, 110]), .inl (nTok s.data.toList), .inl (mTok [61, 62]), .inr (a, Aa, ca)] : List Pt) → KidStmt u.1 := by
    intro u hu
    simp at hu
    subst hu; exact Ha
  have htt : ∀ u, .inr u ∈ ([.inl (kTok [102, 117, 110]), .inl (nTok s.data.toList), .inl (mTok [61, 62]), .inr (a, Aa, ca)] : List Pt) → TmV V.drew (Out V.drew v) u.1 u.2.1 u.2.2 := by
    intro u hu
    simp at hu
    subst hu; exact hva
  have kl0 := lay_new [.inl (kTok [102, 117, 110]), .inl (nTok s.data.toList), .inl (mTok [61, 62]), .inr (a, Aa, ca)] hok hkk base v ts 4 V.drew 98 h8 hbs hEW hOW htt hlen (by show 4 ≤ _; decide)
  have kl : Calls Tryz.prog 31 #[v, .slice (some ⟨V.heap.size, 0, none⟩) 4 4] (V.drew.alloc (.cells #[.iface 76 (.string ⟨#[102, 117, 110]⟩), .iface 75 (.string s), .iface 77 (.string ⟨#[61, 62]⟩), .iface 78 (.agg #[.int .i64 a.kind, .string a.name, .int .i64 a.num, .slice Aa a.kids.length ca])] 98)) fun e w' => ∃ v', e = .returned v' ∧ LayPost base ts (([.inl (kTok [102, 117, 110]), .inl (nTok s.data.toList), .inl (mTok [61, 62]), .inr (a, Aa, ca)] : List Pt).flatMap partT) V.drew v v' w' := kl0
  replace kl := Lib.hid kl
  have hend : Hid (∀ v' w', LayPost base ts (([.inl (kTok [102, 117, 110]), .inl (nTok s.data.toList), .inl (mTok [61, 62]), .inr (a, Aa, ca)] : List Pt).flatMap partT) V.drew v v' w' → LayPost base ts (toksT (.node 3 s 0 [a])) w v v' w') := fun v' w' h => by
    have e : toksT (.node 3 s 0 [a]) = ([.inl (kTok [102, 117, 110]), .inl (nTok s.data.toList), .inl (mTok [61, 62]), .inr (a, Aa, ca)] : List Pt).flatMap partT := by rw [toks_3]; first | rfl | simp [partT]
    rw [e]; exact h.of hgW
  have hS0 : (V).cell? ⟨w.heap.size, 1, none⟩ = some (.string s) ∧ (V).cell? ⟨kb, ko, none⟩ = some (.int .i64 a.kind) ∧ (V).cell? ⟨kb, ko + 1, none⟩ = some (.string a.name) ∧ (V).cell? ⟨kb, ko + 2, none⟩ = some (.int .i64 a.num) ∧ (V).cell? ⟨kb, ko + 3, none⟩ = some (.slice Aa a.kids.length ca) := ⟨i1, ac0, ac1, ac2, ac3⟩
  have hSa : Hid (((V.alloc (.cells #[.iface 76 (.string ⟨#[102, 117, 110]⟩), .iface 75 (.string s), .iface 77 (.string ⟨#[61, 62]⟩), .iface 78 (.agg #[.int .i64 a.kind, .string a.name, .int .i64 a.num, .slice Aa a.kids.length ca])] 98)).drew).cell? ⟨w.heap.size, 1, none⟩ = some (.string s) ∧ ((V.alloc (.cells #[.iface 76 (.string ⟨#[102, 117, 110]⟩), .iface 75 (.string s), .iface 77 (.string ⟨#[61, 62]⟩), .iface 78 (.agg #[.int .i64 a.kind, .string a.name, .int .i64 a.num, .slice Aa a.kids.length ca])] 98)).drew).cell? ⟨kb, ko, none⟩ = some (.int .i64 a.kind) ∧ ((V.alloc (.cells #[.iface 76 (.string ⟨#[102, 117, 110]⟩), .iface 75 (.string s), .iface 77 (.string ⟨#[61, 62]⟩), .iface 78 (.agg #[.int .i64 a.kind, .string a.name, .int .i64 a.num, .slice Aa a.kids.length ca])] 98)).drew).cell? ⟨kb, ko + 1, none⟩ = some (.string a.name) ∧ ((V.alloc (.cells #[.iface 76 (.string ⟨#[102, 117, 110]⟩), .iface 75 (.string s), .iface 77 (.string ⟨#[61, 62]⟩), .iface 78 (.agg #[.int .i64 a.kind, .string a.name, .int .i64 a.num, .slice Aa a.kids.length ca])] 98)).drew).cell? ⟨kb, ko + 2, none⟩ = some (.int .i64 a.num) ∧ ((V.alloc (.cells #[.iface 76 (.string ⟨#[102, 117, 110]⟩), .iface 75 (.string s), .iface 77 (.string ⟨#[61, 62]⟩), .iface 78 (.agg #[.int .i64 a.kind, .string a.name, .int .i64 a.num, .slice Aa a.kids.length ca])] 98)).drew).cell? ⟨kb, ko + 3, none⟩ = some (.slice Aa a.kids.length ca)) := ⟨((later_alloc V (.cells #[.iface 76 (.string ⟨#[102, 117, 110]⟩), .iface 75 (.string s), .iface 77 (.string ⟨#[61, 62]⟩), .iface 78 (.agg #[.int .i64 a.kind, .string a.name, .int .i64 a.num, .slice Aa a.kids.length ca])] 98)).cell (p := ⟨w.heap.size, 1, none⟩) hlv).trans i1, ((later_alloc V (.cells #[.iface 76 (.string ⟨#[102, 117, 110]⟩), .iface 75 (.string s), .iface 77 (.string ⟨#[61, 62]⟩), .iface 78 (.agg #[.int .i64 a.kind, .string a.name, .int .i64 a.num, .slice Aa a.kids.length ca])] 98)).cell (p := ⟨kb, ko, none⟩) hkba).trans ac0, ((later_alloc V (.cells #[.iface 76 (.string ⟨#[102, 117, 110]⟩), .iface 75 (.string s), .iface 77 (.string ⟨#[61, 62]⟩), .iface 78 (.agg #[.int .i64 a.kind, .string a.name, .int .i64 a.num, .slice Aa a.kids.length ca])] 98)).cell (p := ⟨kb, ko + 1, none⟩) hkba).trans ac1, ((later_alloc V (.cells #[.iface 76 (.string ⟨#[102, 117, 110]⟩), .iface 75 (.string s), .iface 77 (.string ⟨#[61, 62]⟩), .iface 78 (.agg #[.int .i64 a.kind, .string a.name, .int .i64 a.num, .slice Aa a.kids.length ca])] 98)).cell (p := ⟨kb, ko + 2, none⟩) hkba).trans ac2, ((later_alloc V (.cells #[.iface 76 (.string ⟨#[102, 117, 110]⟩), .iface 75 (.string s), .iface 77 (.string ⟨#[61, 62]⟩), .iface 78 (.agg #[.int .i64 a.kind, .string a.name, .int .i64 a.num, .slice Aa a.kids.length ca])] 98)).cell (p := ⟨kb, ko + 3, none⟩) hkba).trans ac3⟩
  have hSk : Hid (∀ v1 w1, LayPost base ts (([.inl (kTok [102, 117, 110]), .inl (nTok s.data.toList), .inl (mTok [61, 62]), .inr (a, Aa, ca)] : List Pt).flatMap partT) V.drew v v1 w1 → (w1).cell? ⟨w.heap.size, 1, none⟩ = some (.string s) ∧ (w1).cell? ⟨kb, ko, none⟩ = some (.int .i64 a.kind) ∧ (w1).cell? ⟨kb, ko + 1, none⟩ = some (.string a.name) ∧ (w1).cell? ⟨kb, ko + 2, none⟩ = some (.int .i64 a.num) ∧ (w1).cell? ⟨kb, ko + 3, none⟩ = some (.slice Aa a.kids.length ca)) := fun v1 w1 h => ⟨(h.2.cell (b := w.heap.size) (o := 1) hob).trans i1, (h.2.cell (b := kb) (o := ko) hokb).trans ac0, (h.2.cell (b := kb) (o := ko + 1) hokb).trans ac1, (h.2.cell (b := kb) (o := ko + 2) hokb).trans ac2, (h.2.cell (b := kb) (o := ko + 3) hokb).trans ac3⟩
  clear kl0 hbV hbW hgW hEW hOW hTW hT hown hE hok hkk htt hlen hl hva
  replace hbx := Lib.hid hbx
  replace hV := Lib.hid hV
  replace hVs := Lib.hid hVs
  go_enter Tryz.func17, Tryz.ntmps17
  go_wp2_with fail
  try rw [hV.out]
  go_region_held3 (fun w' => (w').cell? ⟨w.heap.size, 1, none⟩ = some (.string s) ∧ (w').cell? ⟨kb, ko, none⟩ = some (.int .i64 a.kind) ∧ (w').cell? ⟨kb, ko + 1, none⟩ = some (.string a.name) ∧ (w').cell? ⟨kb, ko + 2, none⟩ = some (.int .i64 a.num) ∧ (w').cell? ⟨kb, ko + 3, none⟩ = some (.slice Aa a.kids.length ca)) (first | exact hS0 | exact hSa.out | exact hS1.out) (first | (go_at_call 31; refine kl.out.mono ?_; rintro e w1 ⟨v1, rfl, hp⟩; have hS1 := Lib.hid (hSk.out _ _ hp); replace hp := Lib.hid (hend.out _ _ hp); clear kl))
  all_goals go_wp2
  all_goals go_ret
  all_goals exact ⟨_, rfl, hp.out⟩

set_option maxRecDepth 100000 in
set_option maxHeartbeats 4000000 in
theorem laid_4  (a : Go.Tm.T) (b : Go.Tm.T) (Ha : KidStmt a) (Hb : KidStmt b) : LaidStmt (.node 4 ⟨#[]⟩ 0 [a, b]) := fun base v ts A c w h8 hbase hE hown hT hl => by
  have hbV : Below w.heap.size w (w.alloc (.cells #[.int .i64 4, .string ⟨#[]⟩, .int .i64 0, .slice A 2 c] 24)) := later_alloc _ _
  have hbx : (w.alloc (.cells #[.int .i64 4, .string ⟨#[]⟩, .int .i64 0, .slice A 2 c] 24)).heap[w.heap.size]? = some (.cells #[.int .i64 4, .string ⟨#[]⟩, .int .i64 0, .slice A 2 c] 24 (0, 0)) := World.alloc_heap_new _ _
  have hVs : (w.alloc (.cells #[.int .i64 4, .string ⟨#[]⟩, .int .i64 0, .slice A 2 c] 24)).heap.size = w.heap.size + 1 := by simp
  show Calls Tryz.prog 17 #[v, .agg #[.int .i64 4, .string ⟨#[]⟩, .int .i64 0, .slice A 2 c]] w _
  obtain ⟨V, hV⟩ : ∃ V, w.alloc (.cells #[.int .i64 4, .string ⟨#[]⟩, .int .i64 0, .slice A 2 c] 24) = V := ⟨_, rfl⟩
  rw [hV] at hbV hbx hVs
  have hbW : Below w.heap.size w V.drew := hbV.drew
  have hgW : Gr w V.drew v v := Gr.of_below hbW
  have hEW := hE.below (Nat.le_refl _) (hbW.mono hE.size)
  have hOW := own_below3 hown hbW
  have hTW := hgW.tm hT
  have hbs : base ≤ (V.drew).heap.size := Nat.le_trans hbase hbW.size
  have i0 := cell_of_row V w.heap.size 0 _ _ _ hbx
  have i1 := cell_of_row V w.heap.size 1 _ _ _ hbx
  have i2 := cell_of_row V w.heap.size 2 _ _ _ hbx
  have i3 := cell_of_row V w.heap.size 3 _ _ _ hbx
  have hlv : w.heap.size < V.heap.size := by omega
  have hob : Out V.drew v w.heap.size := ⟨hlv, fun e => by have := own_lt3 hown _ e; omega⟩
  obtain ⟨kb, ko, rfl, hrow⟩ := hTW.row.resolve_left (fun e => by cases e)
  obtain ⟨Aa, ca, hha, hva⟩ := node_tmv (hrow.get 0 (by show _ < 2; decide))
  replace hva : TmV V.drew (Out V.drew v) a Aa ca := hva
  have ac0 : V.cell? ⟨kb, ko, none⟩ = some (.int .i64 a.kind) := hha.kind
  have ac1 : V.cell? ⟨kb, ko + 1, none⟩ = some (.string a.name) := hha.name
  have ac2 : V.cell? ⟨kb, ko + 2, none⟩ = some (.int .i64 a.num) := hha.num
  have ac3 : V.cell? ⟨kb, ko + 3, none⟩ = some (.slice Aa a.kids.length ca) := hha.kids
  have hkba : kb < V.heap.size := hha.at_.1
  have hokb : Out V.drew v kb := hha.at_
  clear hha
  obtain ⟨Ab, cb, hhb, hvb⟩ := node_tmv (hrow.get 1 (by show _ < 2; decide))
  replace hvb : TmV V.drew (Out V.drew v) b Ab cb := hvb
  have bc0 : V.cell? ⟨kb, ko + 4, none⟩ = some (.int .i64 b.kind) := hhb.kind
  have bc1 : V.cell? ⟨kb, ko + 4 + 1, none⟩ = some (.string b.name) := hhb.name
  have bc2 : V.cell? ⟨kb, ko + 4 + 2, none⟩ = some (.int .i64 b.num) := hhb.num
  have bc3 : V.cell? ⟨kb, ko + 4 + 3, none⟩ = some (.slice Ab b.kids.length cb) := hhb.kids
  clear hhb
  clear hrow
  have hlen : ts.length + (([.inr (a, Aa, ca), .inr (b, Ab, cb)] : List Pt).flatMap partT).length ≤ 1099511627776 := by rw [toks_4] at hl; simpa [partT] using hl
  have hok : ∀ p ∈ ([.inr (a, Aa, ca), .inr (b, Ab, cb)] : List Pt), partOk p := by
    intro p hp
    simp only [List.mem_cons, List.not_mem_nil, or_false] at hp
    rcases hp with rfl | rfl
    · exact trivial
    · exact trivial
  have hkk : ∀ u, .inr u ∈ ([.inr (a, Aa, ca), .inr (b, Ab, cb)] : List Pt) → KidStmt u.1 := by
    intro u hu
    simp at hu
    rcases hu with rfl | rfl
    · exact Ha
    · exact Hb
  have htt : ∀ u, .inr u ∈ ([.inr (a, Aa, ca), .inr (b, Ab, cb)] : List Pt) → TmV V.drew (Out V.drew v) u.1 u.2.1 u.2.2 := by
    intro u hu
    simp at hu
    rcases hu with rfl | rfl
    · exact hva
    · exact hvb
  have kl0 := lay_new [.inr (a, Aa, ca), .inr (b, Ab, cb)] hok hkk base v ts 2 V.drew 98 h8 hbs hEW hOW htt hlen (by show 2 ≤ _; decide)
  have kl : Calls Tryz.prog 31 #[v, .slice (some ⟨V.heap.size, 0, none⟩) 2 2] (V.drew.alloc (.cells #[.iface 78 (.agg #[.int .i64 a.kind, .string a.name, .int .i64 a.num, .slice Aa a.kids.length ca]), .iface 78 (.agg #[.int .i64 b.kind, .string b.name, .int .i64 b.num, .slice Ab b.kids.length cb])] 98)) fun e w' => ∃ v', e = .returned v' ∧ LayPost base ts (([.inr (a, Aa, ca), .inr (b, Ab, cb)] : List Pt).flatMap partT) V.drew v v' w' := kl0
  replace kl := Lib.hid kl
  have hend : Hid (∀ v' w', LayPost base ts (([.inr (a, Aa, ca), .inr (b, Ab, cb)] : List Pt).flatMap partT) V.drew v v' w' → LayPost base ts (toksT (.node 4 ⟨#[]⟩ 0 [a, b])) w v v' w') := fun v' w' h => by
    have e : toksT (.node 4 ⟨#[]⟩ 0 [a, b]) = ([.inr (a, Aa, ca), .inr (b, Ab, cb)] : List Pt).flatMap partT := by rw [toks_4]; first | rfl | simp [partT]
    rw [e]; exact h.of hgW
  have hS0 : (V).cell? ⟨kb, ko, none⟩ = some (.int .i64 a.kind) ∧ (V).cell? ⟨kb, ko + 1, none⟩ = some (.string a.name) ∧ (V).cell? ⟨kb, ko + 2, none⟩ = some (.int .i64 a.num) ∧ (V).cell? ⟨kb, ko + 3, none⟩ = some (.slice Aa a.kids.length ca) ∧ (V).cell? ⟨kb, ko + 4, none⟩ = some (.int .i64 b.kind) ∧ (V).cell? ⟨kb, ko + 4 + 1, none⟩ = some (.string b.name) ∧ (V).cell? ⟨kb, ko + 4 + 2, none⟩ = some (.int .i64 b.num) ∧ (V).cell? ⟨kb, ko + 4 + 3, none⟩ = some (.slice Ab b.kids.length cb) := ⟨ac0, ac1, ac2, ac3, bc0, bc1, bc2, bc3⟩
  have hSa : Hid (((V.alloc (.cells #[.iface 78 (.agg #[.int .i64 a.kind, .string a.name, .int .i64 a.num, .slice Aa a.kids.length ca]), .iface 78 (.agg #[.int .i64 b.kind, .string b.name, .int .i64 b.num, .slice Ab b.kids.length cb])] 98)).drew).cell? ⟨kb, ko, none⟩ = some (.int .i64 a.kind) ∧ ((V.alloc (.cells #[.iface 78 (.agg #[.int .i64 a.kind, .string a.name, .int .i64 a.num, .slice Aa a.kids.length ca]), .iface 78 (.agg #[.int .i64 b.kind, .string b.name, .int .i64 b.num, .slice Ab b.kids.length cb])] 98)).drew).cell? ⟨kb, ko + 1, none⟩ = some (.string a.name) ∧ ((V.alloc (.cells #[.iface 78 (.agg #[.int .i64 a.kind, .string a.name, .int .i64 a.num, .slice Aa a.kids.length ca]), .iface 78 (.agg #[.int .i64 b.kind, .string b.name, .int .i64 b.num, .slice Ab b.kids.length cb])] 98)).drew).cell? ⟨kb, ko + 2, none⟩ = some (.int .i64 a.num) ∧ ((V.alloc (.cells #[.iface 78 (.agg #[.int .i64 a.kind, .string a.name, .int .i64 a.num, .slice Aa a.kids.length ca]), .iface 78 (.agg #[.int .i64 b.kind, .string b.name, .int .i64 b.num, .slice Ab b.kids.length cb])] 98)).drew).cell? ⟨kb, ko + 3, none⟩ = some (.slice Aa a.kids.length ca) ∧ ((V.alloc (.cells #[.iface 78 (.agg #[.int .i64 a.kind, .string a.name, .int .i64 a.num, .slice Aa a.kids.length ca]), .iface 78 (.agg #[.int .i64 b.kind, .string b.name, .int .i64 b.num, .slice Ab b.kids.length cb])] 98)).drew).cell? ⟨kb, ko + 4, none⟩ = some (.int .i64 b.kind) ∧ ((V.alloc (.cells #[.iface 78 (.agg #[.int .i64 a.kind, .string a.name, .int .i64 a.num, .slice Aa a.kids.length ca]), .iface 78 (.agg #[.int .i64 b.kind, .string b.name, .int .i64 b.num, .slice Ab b.kids.length cb])] 98)).drew).cell? ⟨kb, ko + 4 + 1, none⟩ = some (.string b.name) ∧ ((V.alloc (.cells #[.iface 78 (.agg #[.int .i64 a.kind, .string a.name, .int .i64 a.num, .slice Aa a.kids.length ca]), .iface 78 (.agg #[.int .i64 b.kind, .string b.name, .int .i64 b.num, .slice Ab b.kids.length cb])] 98)).drew).cell? ⟨kb, ko + 4 + 2, none⟩ = some (.int .i64 b.num) ∧ ((V.alloc (.cells #[.iface 78 (.agg #[.int .i64 a.kind, .string a.name, .int .i64 a.num, .slice Aa a.kids.length ca]), .iface 78 (.agg #[.int .i64 b.kind, .string b.name, .int .i64 b.num, .slice Ab b.kids.length cb])] 98)).drew).cell? ⟨kb, ko + 4 + 3, none⟩ = some (.slice Ab b.kids.length cb)) := ⟨((later_alloc V (.cells #[.iface 78 (.agg #[.int .i64 a.kind, .string a.name, .int .i64 a.num, .slice Aa a.kids.length ca]), .iface 78 (.agg #[.int .i64 b.kind, .string b.name, .int .i64 b.num, .slice Ab b.kids.length cb])] 98)).cell (p := ⟨kb, ko, none⟩) hkba).trans ac0, ((later_alloc V (.cells #[.iface 78 (.agg #[.int .i64 a.kind, .string a.name, .int .i64 a.num, .slice Aa a.kids.length ca]), .iface 78 (.agg #[.int .i64 b.kind, .string b.name, .int .i64 b.num, .slice Ab b.kids.length cb])] 98)).cell (p := ⟨kb, ko + 1, none⟩) hkba).trans ac1, ((later_alloc V (.cells #[.iface 78 (.agg #[.int .i64 a.kind, .string a.name, .int .i64 a.num, .slice Aa a.kids.length ca]), .iface 78 (.agg #[.int .i64 b.kind, .string b.name, .int .i64 b.num, .slice Ab b.kids.length cb])] 98)).cell (p := ⟨kb, ko + 2, none⟩) hkba).trans ac2, ((later_alloc V (.cells #[.iface 78 (.agg #[.int .i64 a.kind, .string a.name, .int .i64 a.num, .slice Aa a.kids.length ca]), .iface 78 (.agg #[.int .i64 b.kind, .string b.name, .int .i64 b.num, .slice Ab b.kids.length cb])] 98)).cell (p := ⟨kb, ko + 3, none⟩) hkba).trans ac3, ((later_alloc V (.cells #[.iface 78 (.agg #[.int .i64 a.kind, .string a.name, .int .i64 a.num, .slice Aa a.kids.length ca]), .iface 78 (.agg #[.int .i64 b.kind, .string b.name, .int .i64 b.num, .slice Ab b.kids.length cb])] 98)).cell (p := ⟨kb, ko + 4, none⟩) hkba).trans bc0, ((later_alloc V (.cells #[.iface 78 (.agg #[.int .i64 a.kind, .string a.name, .int .i64 a.num, .slice Aa a.kids.length ca]), .iface 78 (.agg #[.int .i64 b.kind, .string b.name, .int .i64 b.num, .slice Ab b.kids.length cb])] 98)).cell (p := ⟨kb, ko + 4 + 1, none⟩) hkba).trans bc1, ((later_alloc V (.cells #[.iface 78 (.agg #[.int .i64 a.kind, .string a.name, .int .i64 a.num, .slice Aa a.kids.length ca]), .iface 78 (.agg #[.int .i64 b.kind, .string b.name, .int .i64 b.num, .slice Ab b.kids.length cb])] 98)).cell (p := ⟨kb, ko + 4 + 2, none⟩) hkba).trans bc2, ((later_alloc V (.cells #[.iface 78 (.agg #[.int .i64 a.kind, .string a.name, .int .i64 a.num, .slice Aa a.kids.length ca]), .iface 78 (.agg #[.int .i64 b.kind, .string b.name, .int .i64 b.num, .slice Ab b.kids.length cb])] 98)).cell (p := ⟨kb, ko + 4 + 3, none⟩) hkba).trans bc3⟩
  have hSk : Hid (∀ v1 w1, LayPost base ts (([.inr (a, Aa, ca), .inr (b, Ab, cb)] : List Pt).flatMap partT) V.drew v v1 w1 → (w1).cell? ⟨kb, ko, none⟩ = some (.int .i64 a.kind) ∧ (w1).cell? ⟨kb, ko + 1, none⟩ = some (.string a.name) ∧ (w1).cell? ⟨kb, ko + 2, none⟩ = some (.int .i64 a.num) ∧ (w1).cell? ⟨kb, ko + 3, none⟩ = some (.slice Aa a.kids.length ca) ∧ (w1).cell? ⟨kb, ko + 4, none⟩ = some (.int .i64 b.kind) ∧ (w1).cell? ⟨kb, ko + 4 + 1, none⟩ = some (.string b.name) ∧ (w1).cell? ⟨kb, ko + 4 + 2, none⟩ = some (.int .i64 b.num) ∧ (w1).cell? ⟨kb, ko + 4 + 3, none⟩ = some (.slice Ab b.kids.length cb)) := fun v1 w1 h => ⟨(h.2.cell (b := kb) (o := ko) hokb).trans ac0, (h.2.cell (b := kb) (o := ko + 1) hokb).trans ac1, (h.2.cell (b := kb) (o := ko + 2) hokb).trans ac2, (h.2.cell (b := kb) (o := ko + 3) hokb).trans ac3, (h.2.cell (b := kb) (o := ko + 4) hokb).trans bc0, (h.2.cell (b := kb) (o := ko + 4 + 1) hokb).trans bc1, (h.2.cell (b := kb) (o := ko + 4 + 2) hokb).trans bc2, (h.2.cell (b := kb) (o := ko + 4 + 3) hokb).trans bc3⟩
  clear kl0 hbV hbW hgW hEW hOW hTW hT hown hE hok hkk htt hlen hl hva hvb
  replace hbx := Lib.hid hbx
  replace hV := Lib.hid hV
  replace hVs := Lib.hid hVs
  go_enter Tryz.func17, Tryz.ntmps17
  go_wp2_with fail
  try rw [hV.out]
  go_region_held3 (fun w' => (w').cell? ⟨kb, ko, none⟩ = some (.int .i64 a.kind) ∧ (w').cell? ⟨kb, ko + 1, none⟩ = some (.string a.name) ∧ (w').cell? ⟨kb, ko + 2, none⟩ = some (.int .i64 a.num) ∧ (w').cell? ⟨kb, ko + 3, none⟩ = some (.slice Aa a.kids.length ca) ∧ (w').cell? ⟨kb, ko + 4, none⟩ = some (.int .i64 b.kind) ∧ (w').cell? ⟨kb, ko + 4 + 1, none⟩ = some (.string b.name) ∧ (w').cell? ⟨kb, ko + 4 + 2, none⟩ = some (.int .i64 b.num) ∧ (w').cell? ⟨kb, ko + 4 + 3, none⟩ = some (.slice Ab b.kids.length cb)) (first | exact hS0 | exact hSa.out | exact hS1.out) (first | (go_at_call 31; refine kl.out.mono ?_; rintro e w1 ⟨v1, rfl, hp⟩; have hS1 := Lib.hid (hSk.out _ _ hp); replace hp := Lib.hid (hend.out _ _ hp); clear kl))
  all_goals go_wp2
  all_goals go_ret
  all_goals exact ⟨_, rfl, hp.out⟩

set_option maxRecDepth 100000 in
set_option maxHeartbeats 4000000 in
theorem laid_7  (a : Go.Tm.T) (b : Go.Tm.T) (Ha : KidStmt a) (Hb : KidStmt b) : LaidStmt (.node 7 ⟨#[]⟩ 0 [a, b]) := fun base v ts A c w h8 hbase hE hown hT hl => by
  have hbV : Below w.heap.size w (w.alloc (.cells #[.int .i64 7, .string ⟨#[]⟩, .int .i64 0, .slice A 2 c] 24)) := later_alloc _ _
  have hbx : (w.alloc (.cells #[.int .i64 7, .string ⟨#[]⟩, .int .i64 0, .slice A 2 c] 24)).heap[w.heap.size]? = some (.cells #[.int .i64 7, .string ⟨#[]⟩, .int .i64 0, .slice A 2 c] 24 (0, 0)) := World.alloc_heap_new _ _
  have hVs : (w.alloc (.cells #[.int .i64 7, .string ⟨#[]⟩, .int .i64 0, .slice A 2 c] 24)).heap.size = w.heap.size + 1 := by simp
  show Calls Tryz.prog 17 #[v, .agg #[.int .i64 7, .string ⟨#[]⟩, .int .i64 0, .slice A 2 c]] w _
  obtain ⟨V, hV⟩ : ∃ V, w.alloc (.cells #[.int .i64 7, .string ⟨#[]⟩, .int .i64 0, .slice A 2 c] 24) = V := ⟨_, rfl⟩
  rw [hV] at hbV hbx hVs
  have hbW : Below w.heap.size w V.drew := hbV.drew
  have hgW : Gr w V.drew v v := Gr.of_below hbW
  have hEW := hE.below (Nat.le_refl _) (hbW.mono hE.size)
  have hOW := own_below3 hown hbW
  have hTW := hgW.tm hT
  have hbs : base ≤ (V.drew).heap.size := Nat.le_trans hbase hbW.size
  have i0 := cell_of_row V w.heap.size 0 _ _ _ hbx
  have i1 := cell_of_row V w.heap.size 1 _ _ _ hbx
  have i2 := cell_of_row V w.heap.size 2 _ _ _ hbx
  have i3 := cell_of_row V w.heap.size 3 _ _ _ hbx
  have hlv : w.heap.size < V.heap.size := by omega
  have hob : Out V.drew v w.heap.size := ⟨hlv, fun e => by have := own_lt3 hown _ e; omega⟩
  obtain ⟨kb, ko, rfl, hrow⟩ := hTW.row.resolve_left (fun e => by cases e)
  obtain ⟨Aa, ca, hha, hva⟩ := node_tmv (hrow.get 0 (by show _ < 2; decide))
  replace hva : TmV V.drew (Out V.drew v) a Aa ca := hva
  have ac0 : V.cell? ⟨kb, ko, none⟩ = some (.int .i64 a.kind) := hha.kind
  have ac1 : V.cell? ⟨kb, ko + 1, none⟩ = some (.string a.name) := hha.name
  have ac2 : V.cell? ⟨kb, ko + 2, none⟩ = some (.int .i64 a.num) := hha.num
  have ac3 : V.cell? ⟨kb, ko + 3, none⟩ = some (.slice Aa a.kids.length ca) := hha.kids
  have hkba : kb < V.heap.size := hha.at_.1
  have hokb : Out V.drew v kb := hha.at_
  clear hha
  obtain ⟨Ab, cb, hhb, hvb⟩ := node_tmv (hrow.get 1 (by show _ < 2; decide))
  replace hvb : TmV V.drew (Out V.drew v) b Ab cb := hvb
  have bc0 : V.cell? ⟨kb, ko + 4, none⟩ = some (.int .i64 b.kind) := hhb.kind
  have bc1 : V.cell? ⟨kb, ko + 4 + 1, none⟩ = some (.string b.name) := hhb.name
  have bc2 : V.cell? ⟨kb, ko + 4 + 2, none⟩ = some (.int .i64 b.num) := hhb.num
  have bc3 : V.cell? ⟨kb, ko + 4 + 3, none⟩ = some (.slice Ab b.kids.length cb) := hhb.kids
  clear hhb
  clear hrow
  have hlen : ts.length + (([.inl (kTok [119, 104, 105, 108, 101]), .inr (a, Aa, ca), .inl (kTok [100, 111]), .inr (b, Ab, cb)] : List Pt).flatMap partT).length ≤ 1099511627776 := by rw [toks_7] at hl; simpa [partT] using hl
  have hok : ∀ p ∈ ([.inl (kTok [119, 104, 105, 108, 101]), .inr (a, Aa, ca), .inl (kTok [100, 111]), .inr (b, Ab, cb)] : List Pt), partOk p := by
    intro p hp
    simp only [List.mem_cons, List.not_mem_nil, or_false] at hp
    rcases hp with rfl | rfl | rfl | rfl
    · exact .inl ⟨.inr (.inl rfl), rfl⟩
    · exact trivial
    · exact .inl ⟨.inr (.inl rfl), rfl⟩
    · exact trivial
  have hkk : ∀ u, .inr u ∈ ([.inl (kTok [119, 104, 105, 108, 101]), .inr (a, Aa, ca), .inl (kTok [100, 111]), .inr (b, Ab, cb)] : List Pt) → KidStmt u.1 := by
    intro u hu
    simp at hu
    rcases hu with rfl | rfl
    · exact Ha
    · exact Hb
  have htt : ∀ u, .inr u ∈ ([.inl (kTok [119, 104, 105, 108, 101]), .inr (a, Aa, ca), .inl (kTok [100, 111]), .inr (b, Ab, cb)] : List Pt) → TmV V.drew (Out V.drew v) u.1 u.2.1 u.2.2 := by
    intro u hu
    simp at hu
    rcases hu with rfl | rfl
    · exact hva
    · exact hvb
  have kl0 := lay_new [.inl (kTok [119, 104, 105, 108, 101]), .inr (a, Aa, ca), .inl (kTok [100, 111]), .inr (b, Ab, cb)] hok hkk base v ts 4 V.drew 98 h8 hbs hEW hOW htt hlen (by show 4 ≤ _; decide)
  have kl : Calls Tryz.prog 31 #[v, .slice (some ⟨V.heap.size, 0, none⟩) 4 4] (V.drew.alloc (.cells #[.iface 76 (.string ⟨#[119, 104, 105, 108, 101]⟩), .iface 78 (.agg #[.int .i64 a.kind, .string a.name, .int .i64 a.num, .slice Aa a.kids.length ca]), .iface 76 (.string ⟨#[100, 111]⟩), .iface 78 (.agg #[.int .i64 b.kind, .string b.name, .int .i64 b.num, .slice Ab b.kids.length cb])] 98)) fun e w' => ∃ v', e = .returned v' ∧ LayPost base ts (([.inl (kTok [119, 104, 105, 108, 101]), .inr (a, Aa, ca), .inl (kTok [100, 111]), .inr (b, Ab, cb)] : List Pt).flatMap partT) V.drew v v' w' := kl0
  replace kl := Lib.hid kl
  have hend : Hid (∀ v' w', LayPost base ts (([.inl (kTok [119, 104, 105, 108, 101]), .inr (a, Aa, ca), .inl (kTok [100, 111]), .inr (b, Ab, cb)] : List Pt).flatMap partT) V.drew v v' w' → LayPost base ts (toksT (.node 7 ⟨#[]⟩ 0 [a, b])) w v v' w') := fun v' w' h => by
    have e : toksT (.node 7 ⟨#[]⟩ 0 [a, b]) = ([.inl (kTok [119, 104, 105, 108, 101]), .inr (a, Aa, ca), .inl (kTok [100, 111]), .inr (b, Ab, cb)] : List Pt).flatMap partT := by rw [toks_7]; first | rfl | simp [partT]
    rw [e]; exact h.of hgW
  have hS0 : (V).cell? ⟨kb, ko, none⟩ = some (.int .i64 a.kind) ∧ (V).cell? ⟨kb, ko + 1, none⟩ = some (.string a.name) ∧ (V).cell? ⟨kb, ko + 2, none⟩ = some (.int .i64 a.num) ∧ (V).cell? ⟨kb, ko + 3, none⟩ = some (.slice Aa a.kids.length ca) ∧ (V).cell? ⟨kb, ko + 4, none⟩ = some (.int .i64 b.kind) ∧ (V).cell? ⟨kb, ko + 4 + 1, none⟩ = some (.string b.name) ∧ (V).cell? ⟨kb, ko + 4 + 2, none⟩ = some (.int .i64 b.num) ∧ (V).cell? ⟨kb, ko + 4 + 3, none⟩ = some (.slice Ab b.kids.length cb) := ⟨ac0, ac1, ac2, ac3, bc0, bc1, bc2, bc3⟩
  have hSa : Hid (((V.alloc (.cells #[.iface 76 (.string ⟨#[119, 104, 105, 108, 101]⟩), .iface 78 (.agg #[.int .i64 a.kind, .string a.name, .int .i64 a.num, .slice Aa a.kids.length ca]), .iface 76 (.string ⟨#[100, 111]⟩), .iface 78 (.agg #[.int .i64 b.kind, .string b.name, .int .i64 b.num, .slice Ab b.kids.length cb])] 98)).drew).cell? ⟨kb, ko, none⟩ = some (.int .i64 a.kind) ∧ ((V.alloc (.cells #[.iface 76 (.string ⟨#[119, 104, 105, 108, 101]⟩), .iface 78 (.agg #[.int .i64 a.kind, .string a.name, .int .i64 a.num, .slice Aa a.kids.length ca]), .iface 76 (.string ⟨#[100, 111]⟩), .iface 78 (.agg #[.int .i64 b.kind, .string b.name, .int .i64 b.num, .slice Ab b.kids.length cb])] 98)).drew).cell? ⟨kb, ko + 1, none⟩ = some (.string a.name) ∧ ((V.alloc (.cells #[.iface 76 (.string ⟨#[119, 104, 105, 108, 101]⟩), .iface 78 (.agg #[.int .i64 a.kind, .string a.name, .int .i64 a.num, .slice Aa a.kids.length ca]), .iface 76 (.string ⟨#[100, 111]⟩), .iface 78 (.agg #[.int .i64 b.kind, .string b.name, .int .i64 b.num, .slice Ab b.kids.length cb])] 98)).drew).cell? ⟨kb, ko + 2, none⟩ = some (.int .i64 a.num) ∧ ((V.alloc (.cells #[.iface 76 (.string ⟨#[119, 104, 105, 108, 101]⟩), .iface 78 (.agg #[.int .i64 a.kind, .string a.name, .int .i64 a.num, .slice Aa a.kids.length ca]), .iface 76 (.string ⟨#[100, 111]⟩), .iface 78 (.agg #[.int .i64 b.kind, .string b.name, .int .i64 b.num, .slice Ab b.kids.length cb])] 98)).drew).cell? ⟨kb, ko + 3, none⟩ = some (.slice Aa a.kids.length ca) ∧ ((V.alloc (.cells #[.iface 76 (.string ⟨#[119, 104, 105, 108, 101]⟩), .iface 78 (.agg #[.int .i64 a.kind, .string a.name, .int .i64 a.num, .slice Aa a.kids.length ca]), .iface 76 (.string ⟨#[100, 111]⟩), .iface 78 (.agg #[.int .i64 b.kind, .string b.name, .int .i64 b.num, .slice Ab b.kids.length cb])] 98)).drew).cell? ⟨kb, ko + 4, none⟩ = some (.int .i64 b.kind) ∧ ((V.alloc (.cells #[.iface 76 (.string ⟨#[119, 104, 105, 108, 101]⟩), .iface 78 (.agg #[.int .i64 a.kind, .string a.name, .int .i64 a.num, .slice Aa a.kids.length ca]), .iface 76 (.string ⟨#[100, 111]⟩), .iface 78 (.agg #[.int .i64 b.kind, .string b.name, .int .i64 b.num, .slice Ab b.kids.length cb])] 98)).drew).cell? ⟨kb, ko + 4 + 1, none⟩ = some (.string b.name) ∧ ((V.alloc (.cells #[.iface 76 (.string ⟨#[119, 104, 105, 108, 101]⟩), .iface 78 (.agg #[.int .i64 a.kind, .string a.name, .int .i64 a.num, .slice Aa a.kids.length ca]), .iface 76 (.string ⟨#[100, 111]⟩), .iface 78 (.agg #[.int .i64 b.kind, .string b.name, .int .i64 b.num, .slice Ab b.kids.length cb])] 98)).drew).cell? ⟨kb, ko + 4 + 2, none⟩ = some (.int .i64 b.num) ∧ ((V.alloc (.cells #[.iface 76 (.string ⟨#[119, 104, 105, 108, 101]⟩), .iface 78 (.agg #[.int .i64 a.kind, .string a.name, .int .i64 a.num, .slice Aa a.kids.length ca]), .iface 76 (.string ⟨#[100, 111]⟩), .iface 78 (.agg #[.int .i64 b.kind, .string b.name, .int .i64 b.num, .slice Ab b.kids.length cb])] 98)).drew).cell? ⟨kb, ko + 4 + 3, none⟩ = some (.slice Ab b.kids.length cb)) := ⟨((later_alloc V (.cells #[.iface 76 (.string ⟨#[119, 104, 105, 108, 101]⟩), .iface 78 (.agg #[.int .i64 a.kind, .string a.name, .int .i64 a.num, .slice Aa a.kids.length ca]), .iface 76 (.string ⟨#[100, 111]⟩), .iface 78 (.agg #[.int .i64 b.kind, .string b.name, .int .i64 b.num, .slice Ab b.kids.length cb])] 98)).cell (p := ⟨kb, ko, none⟩) hkba).trans ac0, ((later_alloc V (.cells #[.iface 76 (.string ⟨#[119, 104, 105, 108, 101]⟩), .iface 78 (.agg #[.int .i64 a.kind, .string a.name, .int .i64 a.num, .slice Aa a.kids.length ca]), .iface 76 (.string ⟨#[100, 111]⟩), .iface 78 (.agg #[.int .i64 b.kind, .string b.name, .int .i64 b.num, .slice Ab b.kids.length cb])] 98)).cell (p := ⟨kb, ko + 1, none⟩) hkba).trans ac1, ((later_alloc V (.cells #[.iface 76 (.string ⟨#[119, 104, 105, 108, 101]⟩), .iface 78 (.agg #[.int .i64 a.kind, .string a.name, .int .i64 a.num, .slice Aa a.kids.length ca]), .iface 76 (.string ⟨#[100, 111]⟩), .iface 78 (.agg #[.int .i64 b.kind, .string b.name, .int .i64 b.num, .slice Ab b.kids.length cb])] 98)).cell (p := ⟨kb, ko + 2, none⟩) hkba).trans ac2, ((later_alloc V (.cells #[.iface 76 (.string ⟨#[119, 104, 105, 108, 101]⟩), .iface 78 (.agg #[.int .i64 a.kind, .string a.name, .int .i64 a.num, .slice Aa a.kids.length ca]), .iface 76 (.string ⟨#[100, 111]⟩), .iface 78 (.agg #[.int .i64 b.kind, .string b.name, .int .i64 b.num, .slice Ab b.kids.length cb])] 98)).cell (p := ⟨kb, ko + 3, none⟩) hkba).trans ac3, ((later_alloc V (.cells #[.iface 76 (.string ⟨#[119, 104, 105, 108, 101]⟩), .iface 78 (.agg #[.int .i64 a.kind, .string a.name, .int .i64 a.num, .slice Aa a.kids.length ca]), .iface 76 (.string ⟨#[100, 111]⟩), .iface 78 (.agg #[.int .i64 b.kind, .string b.name, .int .i64 b.num, .slice Ab b.kids.length cb])] 98)).cell (p := ⟨kb, ko + 4, none⟩) hkba).trans bc0, ((later_alloc V (.cells #[.iface 76 (.string ⟨#[119, 104, 105, 108, 101]⟩), .iface 78 (.agg #[.int .i64 a.kind, .string a.name, .int .i64 a.num, .slice Aa a.kids.length ca]), .iface 76 (.string ⟨#[100, 111]⟩), .iface 78 (.agg #[.int .i64 b.kind, .string b.name, .int .i64 b.num, .slice Ab b.kids.length cb])] 98)).cell (p := ⟨kb, ko + 4 + 1, none⟩) hkba).trans bc1, ((later_alloc V (.cells #[.iface 76 (.string ⟨#[119, 104, 105, 108, 101]⟩), .iface 78 (.agg #[.int .i64 a.kind, .string a.name, .int .i64 a.num, .slice Aa a.kids.length ca]), .iface 76 (.string ⟨#[100, 111]⟩), .iface 78 (.agg #[.int .i64 b.kind, .string b.name, .int .i64 b.num, .slice Ab b.kids.length cb])] 98)).cell (p := ⟨kb, ko + 4 + 2, none⟩) hkba).trans bc2, ((later_alloc V (.cells #[.iface 76 (.string ⟨#[119, 104, 105, 108, 101]⟩), .iface 78 (.agg #[.int .i64 a.kind, .string a.name, .int .i64 a.num, .slice Aa a.kids.length ca]), .iface 76 (.string ⟨#[100, 111]⟩), .iface 78 (.agg #[.int .i64 b.kind, .string b.name, .int .i64 b.num, .slice Ab b.kids.length cb])] 98)).cell (p := ⟨kb, ko + 4 + 3, none⟩) hkba).trans bc3⟩
  have hSk : Hid (∀ v1 w1, LayPost base ts (([.inl (kTok [119, 104, 105, 108, 101]), .inr (a, Aa, ca), .inl (kTok [100, 111]), .inr (b, Ab, cb)] : List Pt).flatMap partT) V.drew v v1 w1 → (w1).cell? ⟨kb, ko, none⟩ = some (.int .i64 a.kind) ∧ (w1).cell? ⟨kb, ko + 1, none⟩ = some (.string a.name) ∧ (w1).cell? ⟨kb, ko + 2, none⟩ = some (.int .i64 a.num) ∧ (w1).cell? ⟨kb, ko + 3, none⟩ = some (.slice Aa a.kids.length ca) ∧ (w1).cell? ⟨kb, ko + 4, none⟩ = some (.int .i64 b.kind) ∧ (w1).cell? ⟨kb, ko + 4 + 1, none⟩ = some (.string b.name) ∧ (w1).cell? ⟨kb, ko + 4 + 2, none⟩ = some (.int .i64 b.num) ∧ (w1).cell? ⟨kb, ko + 4 + 3, none⟩ = some (.slice Ab b.kids.length cb)) := fun v1 w1 h => ⟨(h.2.cell (b := kb) (o := ko) hokb).trans ac0, (h.2.cell (b := kb) (o := ko + 1) hokb).trans ac1, (h.2.cell (b := kb) (o := ko + 2) hokb).trans ac2, (h.2.cell (b := kb) (o := ko + 3) hokb).trans ac3, (h.2.cell (b := kb) (o := ko + 4) hokb).trans bc0, (h.2.cell (b := kb) (o := ko + 4 + 1) hokb).trans bc1, (h.2.cell (b := kb) (o := ko + 4 + 2) hokb).trans bc2, (h.2.cell (b := kb) (o := ko + 4 + 3) hokb).trans bc3⟩
  clear kl0 hbV hbW hgW hEW hOW hTW hT hown hE hok hkk htt hlen hl hva hvb
  replace hbx := Lib.hid hbx
  replace hV := Lib.hid hV
  replace hVs := Lib.hid hVs
  go_enter Tryz.func17, Tryz.ntmps17
  go_wp2_with fail
  try rw [hV.out]
  go_region_held3 (fun w' => (w').cell? ⟨kb, ko, none⟩ = some (.int .i64 a.kind) ∧ (w').cell? ⟨kb, ko + 1, none⟩ = some (.string a.name) ∧ (w').cell? ⟨kb, ko + 2, none⟩ = some (.int .i64 a.num) ∧ (w').cell? ⟨kb, ko + 3, none⟩ = some (.slice Aa a.kids.length ca) ∧ (w').cell? ⟨kb, ko + 4, none⟩ = some (.int .i64 b.kind) ∧ (w').cell? ⟨kb, ko + 4 + 1, none⟩ = some (.string b.name) ∧ (w').cell? ⟨kb, ko + 4 + 2, none⟩ = some (.int .i64 b.num) ∧ (w').cell? ⟨kb, ko + 4 + 3, none⟩ = some (.slice Ab b.kids.length cb)) (first | exact hS0 | exact hSa.out | exact hS1.out) (first | (go_at_call 31; refine kl.out.mono ?_; rintro e w1 ⟨v1, rfl, hp⟩; have hS1 := Lib.hid (hSk.out _ _ hp); replace hp := Lib.hid (hend.out _ _ hp); clear kl))
  all_goals go_wp2
  all_goals go_ret
  all_goals exact ⟨_, rfl, hp.out⟩

set_option maxRecDepth 100000 in
set_option maxHeartbeats 4000000 in
theorem laid_8  (a : Go.Tm.T) (Ha : KidStmt a) : LaidStmt (.node 8 ⟨#[]⟩ 0 [a]) := fun base v ts A c w h8 hbase hE hown hT hl => by
  have hbV : Below w.heap.size w (w.alloc (.cells #[.int .i64 8, .string ⟨#[]⟩, .int .i64 0, .slice A 1 c] 24)) := later_alloc _ _
  have hbx : (w.alloc (.cells #[.int .i64 8, .string ⟨#[]⟩, .int .i64 0, .slice A 1 c] 24)).heap[w.heap.size]? = some (.cells #[.int .i64 8, .string ⟨#[]⟩, .int .i64 0, .slice A 1 c] 24 (0, 0)) := World.alloc_heap_new _ _
  have hVs : (w.alloc (.cells #[.int .i64 8, .string ⟨#[]⟩, .int .i64 0, .slice A 1 c] 24)).heap.size = w.heap.size + 1 := by simp
  show Calls Tryz.prog 17 #[v, .agg #[.int .i64 8, .string ⟨#[]⟩, .int .i64 0, .slice A 1 c]] w _
  obtain ⟨V, hV⟩ : ∃ V, w.alloc (.cells #[.int .i64 8, .string ⟨#[]⟩, .int .i64 0, .slice A 1 c] 24) = V := ⟨_, rfl⟩
  rw [hV] at hbV hbx hVs
  have hbW : Below w.heap.size w V := hbV
  have hgW : Gr w V v v := Gr.of_below hbW
  have hEW := hE.below (Nat.le_refl _) (hbW.mono hE.size)
  have hOW := own_below3 hown hbW
  have hTW := hgW.tm hT
  have hbs : base ≤ (V).heap.size := Nat.le_trans hbase hbW.size
  have i0 := cell_of_row V w.heap.size 0 _ _ _ hbx
  have i1 := cell_of_row V w.heap.size 1 _ _ _ hbx
  have i2 := cell_of_row V w.heap.size 2 _ _ _ hbx
  have i3 := cell_of_row V w.heap.size 3 _ _ _ hbx
  have hlv : w.heap.size < V.heap.size := by omega
  obtain ⟨kb, ko, rfl, hrow⟩ := hTW.row.resolve_left (fun e => by cases e)
  obtain ⟨Aa, ca, hha, hva⟩ := node_tmv (hrow.get 0 (by show _ < 1; decide))
  replace hva : TmV V (Out V v) a Aa ca := hva
  have ac0 : V.cell? ⟨kb, ko, none⟩ = some (.int .i64 a.kind) := hha.kind
  have ac0' : (w.alloc (.cells #[.int .i64 8, .string ⟨#[]⟩, .int .i64 0, .slice (some ⟨kb, ko, none⟩) 1 c] 24)).cell? ⟨kb, ko, none⟩ = some (.int .i64 a.kind) := by rw [hV]; exact ac0
  have ac1 : V.cell? ⟨kb, ko + 1, none⟩ = some (.string a.name) := hha.name
  have ac1' : (w.alloc (.cells #[.int .i64 8, .string ⟨#[]⟩, .int .i64 0, .slice (some ⟨kb, ko, none⟩) 1 c] 24)).cell? ⟨kb, ko + 1, none⟩ = some (.string a.name) := by rw [hV]; exact ac1
  have ac2 : V.cell? ⟨kb, ko + 2, none⟩ = some (.int .i64 a.num) := hha.num
  have ac2' : (w.alloc (.cells #[.int .i64 8, .string ⟨#[]⟩, .int .i64 0, .slice (some ⟨kb, ko, none⟩) 1 c] 24)).cell? ⟨kb, ko + 2, none⟩ = some (.int .i64 a.num) := by rw [hV]; exact ac2
  have ac3 : V.cell? ⟨kb, ko + 3, none⟩ = some (.slice Aa a.kids.length ca) := hha.kids
  have ac3' : (w.alloc (.cells #[.int .i64 8, .string ⟨#[]⟩, .int .i64 0, .slice (some ⟨kb, ko, none⟩) 1 c] 24)).cell? ⟨kb, ko + 3, none⟩ = some (.slice Aa a.kids.length ca) := by rw [hV]; exact ac3
  have hkba : kb < V.heap.size := hha.at_.1
  clear hha
  clear hrow
  have hlen : ts.length + (([.inl (kTok [114, 97, 105, 115, 101]), .inr (a, Aa, ca)] : List Pt).flatMap partT).length ≤ 1099511627776 := by rw [toks_8] at hl; simpa [partT] using hl
  have hok : ∀ p ∈ ([.inl (kTok [114, 97, 105, 115, 101]), .inr (a, Aa, ca)] : List Pt), partOk p := by
    intro p hp
    simp only [List.mem_cons, List.not_mem_nil, or_false] at hp
    rcases hp with rfl | rfl
    · exact .inl ⟨.inr (.inl rfl), rfl⟩
    · exact trivial
  have hkk : ∀ u, .inr u ∈ ([.inl (kTok [114, 97, 105, 115, 101]), .inr (a, Aa, ca)] : List Pt) → KidStmt u.1 := by
    intro u hu
    simp at hu
    subst hu; exact Ha
  have htt : ∀ u, .inr u ∈ ([.inl (kTok [114, 97, 105, 115, 101]), .inr (a, Aa, ca)] : List Pt) → TmV V (Out V v) u.1 u.2.1 u.2.2 := by
    intro u hu
    simp at hu
    subst hu; exact hva
  have kl0 := lay_new [.inl (kTok [114, 97, 105, 115, 101]), .inr (a, Aa, ca)] hok hkk base v ts 2 V 98 h8 hbs hEW hOW htt hlen (by show 2 ≤ _; decide)
  have kl : Calls Tryz.prog 31 #[v, .slice (some ⟨V.heap.size, 0, none⟩) 2 2] (V.alloc (.cells #[.iface 76 (.string ⟨#[114, 97, 105, 115, 101]⟩), .iface 78 (.agg #[.int .i64 a.kind, .string a.name, .int .i64 a.num, .slice Aa a.kids.length ca])] 98)) fun e w' => ∃ v', e = .returned v' ∧ LayPost base ts (([.inl (kTok [114, 97, 105, 115, 101]), .inr (a, Aa, ca)] : List Pt).flatMap partT) V v v' w' := kl0
  rw [hVs] at kl
  replace kl := Lib.hid kl
  have hend : Hid (∀ v' w', LayPost base ts (([.inl (kTok [114, 97, 105, 115, 101]), .inr (a, Aa, ca)] : List Pt).flatMap partT) V v v' w' → LayPost base ts (toksT (.node 8 ⟨#[]⟩ 0 [a])) w v v' w') := fun v' w' h => by
    have e : toksT (.node 8 ⟨#[]⟩ 0 [a]) = ([.inl (kTok [114, 97, 105, 115, 101]), .inr (a, Aa, ca)] : List Pt).flatMap partT := by rw [toks_8]; first | rfl | simp [partT]
    rw [e]; exact h.of hgW
  clear kl0 hbV hbW hgW hEW hOW hTW hT hown hE hok hkk htt hlen hl hva
  replace hbx := Lib.hid hbx
  replace hV := Lib.hid hV
  go_enter Tryz.func17, Tryz.ntmps17
  go_wp2_with fail
  try rw [hV.out]
  go_wp2_with fail
  refine kl.out.mono ?_
  rintro e w1 ⟨v1, rfl, hp⟩
  replace hp := Lib.hid (hend.out _ _ hp)
  clear kl
  go_wp2_with fail
  go_ret
  exact ⟨_, rfl, hp.out⟩

set_option maxRecDepth 100000 in
set_option maxHeartbeats 4000000 in
theorem laid_10  (a : Go.Tm.T) (Ha : KidStmt a) : LaidStmt (.node 10 ⟨#[]⟩ 0 [a]) := fun base v ts A c w h8 hbase hE hown hT hl => by
  have hbV : Below w.heap.size w (w.alloc (.cells #[.int .i64 10, .string ⟨#[]⟩, .int .i64 0, .slice A 1 c] 24)) := later_alloc _ _
  have hbx : (w.alloc (.cells #[.int .i64 10, .string ⟨#[]⟩, .int .i64 0, .slice A 1 c] 24)).heap[w.heap.size]? = some (.cells #[.int .i64 10, .string ⟨#[]⟩, .int .i64 0, .slice A 1 c] 24 (0, 0)) := World.alloc_heap_new _ _
  have hVs : (w.alloc (.cells #[.int .i64 10, .string ⟨#[]⟩, .int .i64 0, .slice A 1 c] 24)).heap.size = w.heap.size + 1 := by simp
  show Calls Tryz.prog 17 #[v, .agg #[.int .i64 10, .string ⟨#[]⟩, .int .i64 0, .slice A 1 c]] w _
  obtain ⟨V, hV⟩ : ∃ V, w.alloc (.cells #[.int .i64 10, .string ⟨#[]⟩, .int .i64 0, .slice A 1 c] 24) = V := ⟨_, rfl⟩
  rw [hV] at hbV hbx hVs
  have hbW : Below w.heap.size w V := hbV
  have hgW : Gr w V v v := Gr.of_below hbW
  have hEW := hE.below (Nat.le_refl _) (hbW.mono hE.size)
  have hOW := own_below3 hown hbW
  have hTW := hgW.tm hT
  have hbs : base ≤ (V).heap.size := Nat.le_trans hbase hbW.size
  have i0 := cell_of_row V w.heap.size 0 _ _ _ hbx
  have i1 := cell_of_row V w.heap.size 1 _ _ _ hbx
  have i2 := cell_of_row V w.heap.size 2 _ _ _ hbx
  have i3 := cell_of_row V w.heap.size 3 _ _ _ hbx
  have hlv : w.heap.size < V.heap.size := by omega
  obtain ⟨kb, ko, rfl, hrow⟩ := hTW.row.resolve_left (fun e => by cases e)
  obtain ⟨Aa, ca, hha, hva⟩ := node_tmv (hrow.get 0 (by show _ < 1; decide))
  replace hva : TmV V (Out V v) a Aa ca := hva
  have ac0 : V.cell? ⟨kb, ko, none⟩ = some (.int .i64 a.kind) := hha.kind
  have ac0' : (w.alloc (.cells #[.int .i64 10, .string ⟨#[]⟩, .int .i64 0, .slice (some ⟨kb, ko, none⟩) 1 c] 24)).cell? ⟨kb, ko, none⟩ = some (.int .i64 a.kind) := by rw [hV]; exact ac0
  have ac1 : V.cell? ⟨kb, ko + 1, none⟩ = some (.string a.name) := hha.name
  have ac1' : (w.alloc (.cells #[.int .i64 10, .string ⟨#[]⟩, .int .i64 0, .slice (some ⟨kb, ko, none⟩) 1 c] 24)).cell? ⟨kb, ko + 1, none⟩ = some (.string a.name) := by rw [hV]; exact ac1
  have ac2 : V.cell? ⟨kb, ko + 2, none⟩ = some (.int .i64 a.num) := hha.num
  have ac2' : (w.alloc (.cells #[.int .i64 10, .string ⟨#[]⟩, .int .i64 0, .slice (some ⟨kb, ko, none⟩) 1 c] 24)).cell? ⟨kb, ko + 2, none⟩ = some (.int .i64 a.num) := by rw [hV]; exact ac2
  have ac3 : V.cell? ⟨kb, ko + 3, none⟩ = some (.slice Aa a.kids.length ca) := hha.kids
  have ac3' : (w.alloc (.cells #[.int .i64 10, .string ⟨#[]⟩, .int .i64 0, .slice (some ⟨kb, ko, none⟩) 1 c] 24)).cell? ⟨kb, ko + 3, none⟩ = some (.slice Aa a.kids.length ca) := by rw [hV]; exact ac3
  have hkba : kb < V.heap.size := hha.at_.1
  clear hha
  clear hrow
  have hlen : ts.length + (([.inl (mTok [33]), .inr (a, Aa, ca)] : List Pt).flatMap partT).length ≤ 1099511627776 := by rw [toks_10] at hl; simpa [partT] using hl
  have hok : ∀ p ∈ ([.inl (mTok [33]), .inr (a, Aa, ca)] : List Pt), partOk p := by
    intro p hp
    simp only [List.mem_cons, List.not_mem_nil, or_false] at hp
    rcases hp with rfl | rfl
    · exact .inl ⟨.inr (.inr rfl), rfl⟩
    · exact trivial
  have hkk : ∀ u, .inr u ∈ ([.inl (mTok [33]), .inr (a, Aa, ca)] : List Pt) → KidStmt u.1 := by
    intro u hu
    simp at hu
    subst hu; exact Ha
  have htt : ∀ u, .inr u ∈ ([.inl (mTok [33]), .inr (a, Aa, ca)] : List Pt) → TmV V (Out V v) u.1 u.2.1 u.2.2 := by
    intro u hu
    simp at hu
    subst hu; exact hva
  have kl0 := lay_new [.inl (mTok [33]), .inr (a, Aa, ca)] hok hkk base v ts 2 V 98 h8 hbs hEW hOW htt hlen (by show 2 ≤ _; decide)
  have kl : Calls Tryz.prog 31 #[v, .slice (some ⟨V.heap.size, 0, none⟩) 2 2] (V.alloc (.cells #[.iface 77 (.string ⟨#[33]⟩), .iface 78 (.agg #[.int .i64 a.kind, .string a.name, .int .i64 a.num, .slice Aa a.kids.length ca])] 98)) fun e w' => ∃ v', e = .returned v' ∧ LayPost base ts (([.inl (mTok [33]), .inr (a, Aa, ca)] : List Pt).flatMap partT) V v v' w' := kl0
  rw [hVs] at kl
  replace kl := Lib.hid kl
  have hend : Hid (∀ v' w', LayPost base ts (([.inl (mTok [33]), .inr (a, Aa, ca)] : List Pt).flatMap partT) V v v' w' → LayPost base ts (toksT (.node 10 ⟨#[]⟩ 0 [a])) w v v' w') := fun v' w' h => by
    have e : toksT (.node 10 ⟨#[]⟩ 0 [a]) = ([.inl (mTok [33]), .inr (a, Aa, ca)] : List Pt).flatMap partT := by rw [toks_10]; first | rfl | simp [partT]
    rw [e]; exact h.of hgW
  clear kl0 hbV hbW hgW hEW hOW hTW hT hown hE hok hkk htt hlen hl hva
  replace hbx := Lib.hid hbx
  replace hV := Lib.hid hV
  go_enter Tryz.func17, Tryz.ntmps17
  go_wp2_with fail
  try rw [hV.out]
  go_wp2_with fail
  refine kl.out.mono ?_
  rintro e w1 ⟨v1, rfl, hp⟩
  replace hp := Lib.hid (hend.out _ _ hp)
  clear kl
  go_wp2_with fail
  go_ret
  exact ⟨_, rfl, hp.out⟩

end Go.Proofs.YthmchdpinobbgaaGreatDoor
