/-
  laid: a term's tokens, a kind each. Condition: its kids are laid as they should be.
-/
import Derived.Test.YthmchdpinobbgaaGreatDoorShKid
import Derived.Deep.RegionHeld3
import Derived.Deep.DrawnRows
namespace Go.Proofs.YthmchdpinobbgaaGreatDoor
open Go.RowKit Go.Shelf Go.Tm Go.Lx Go.Maps
attribute [local go_sem] Oper.semAt_some

set_option maxRecDepth 100000 in
set_option maxHeartbeats 4000000 in
theorem laid_6  (a : Go.Tm.T) (b : Go.Tm.T) (d : Go.Tm.T) (Ha : KidStmt a) (Hb : KidStmt b) (Hd : KidStmt d) : LaidStmt (.node 6 ⟨#[]⟩ 0 [a, b, d]) := fun base v ts A c w h8 hbase hE hown hT hl => by
  have hbV : Below w.heap.size w (w.alloc (.cells #[.int .i64 6, .string ⟨#[]⟩, .int .i64 0, .slice A 3 c] 24)) := later_alloc _ _
  have hbx : (w.alloc (.cells #[.int .i64 6, .string ⟨#[]⟩, .int .i64 0, .slice A 3 c] 24)).heap[w.heap.size]? = some (.cells #[.int .i64 6, .string ⟨#[]⟩, .int .i64 0, .slice A 3 c] 24 (0, 0)) := World.alloc_heap_new _ _
  have hVs : (w.alloc (.cells #[.int .i64 6, .string ⟨#[]⟩, .int .i64 0, .slice A 3 c] 24)).heap.size = w.heap.size + 1 := by simp
  show Calls Tryz.prog 17 #[v, .agg #[.int .i64 6, .string ⟨#[]⟩, .int .i64 0, .slice A 3 c]] w _
  obtain ⟨V, hV⟩ : ∃ V, w.alloc (.cells #[.int .i64 6, .string ⟨#[]⟩, .int .i64 0, .slice A 3 c] 24) = V := ⟨_, rfl⟩
  rw [hV] at hbV hbx hVs
  have hbW : Below w.heap.size w V.drew := hbV.drew
  have hgW : Gr w V.drew v v := Gr.of_below hbW
  have hEW := hE.below (Nat.le_refl _) (hbW.mono hE.size)
  have hOW := own_below3 hown hbW
  have hTW := hgW.tm hT
  have hbs : base ≤ (V.drew).heap.size := Nat.le_trans hbase hbW.size
  have i0 := cell_of_row V w.heap.size 0 _ _ _ hbx
  have i1 := cell_of_row V w.heap.size 1 _ _ _ hbx
  have i2 := cell_of_row V w.heap.size 2 _ _ _ hbx
  have i3 := cell_of_row V w.heap.size 3 _ _ _ hbx
  have hlv : w.heap.size < V.heap.size := by omega
  have hob : Out V.drew v w.heap.size := ⟨hlv, fun e => by have := own_lt3 hown _ e; omega⟩
  obtain ⟨kb, ko, rfl, hrow⟩ := hTW.row.resolve_left (fun e => by cases e)
  obtain ⟨Aa, ca, hha, hva⟩ := node_tmv (hrow.get 0 (by show _ < 3; decide))
  replace hva : TmV V.drew (Out V.drew v) a Aa ca := hva
  have ac0 : V.cell? ⟨kb, ko, none⟩ = some (.int .i64 a.kind) := hha.kind
  have ac1 : V.cell? ⟨kb, ko + 1, none⟩ = some (.string a.name) := hha.name
  have ac2 : V.cell? ⟨kb, ko + 2, none⟩ = some (.int .i64 a.num) := hha.num
  have ac3 : V.cell? ⟨kb, ko + 3, none⟩ = some (.slice Aa a.kids.length ca) := hha.kids
  have hkba : kb < V.heap.size := hha.at_.1
  have hokb : Out V.drew v kb := hha.at_
  clear hha
  obtain ⟨Ab, cb, hhb, hvb⟩ := node_tmv (hrow.get 1 (by show _ < 3; decide))
  replace hvb : TmV V.drew (Out V.drew v) b Ab cb := hvb
  have bc0 : V.cell? ⟨kb, ko + 4, none⟩ = some (.int .i64 b.kind) := hhb.kind
  have bc1 : V.cell? ⟨kb, ko + 4 + 1, none⟩ = some (.string b.name) := hhb.name
  have bc2 : V.cell? ⟨kb, ko + 4 + 2, none⟩ = some (.int .i64 b.num) := hhb.num
  have bc3 : V.cell? ⟨kb, ko + 4 + 3, none⟩ = some (.slice Ab b.kids.length cb) := hhb.kids
  clear hhb
  obtain ⟨Ad, cd, hhd, hvd⟩ := node_tmv (hrow.get 2 (by show _ < 3; decide))
  replace hvd : TmV V.drew (Out V.drew v) d Ad cd := hvd
  have dc0 : V.cell? ⟨kb, ko + 8, none⟩ = some (.int .i64 d.kind) := hhd.kind
  have dc1 : V.cell? ⟨kb, ko + 8 + 1, none⟩ = some (.string d.name) := hhd.name
  have dc2 : V.cell? ⟨kb, ko + 8 + 2, none⟩ = some (.int .i64 d.num) := hhd.num
  have dc3 : V.cell? ⟨kb, ko + 8 + 3, none⟩ = some (.slice Ad d.kids.length cd) := hhd.kids
  clear hhd
  clear hrow
  have hlen : ts.length + (([.inl (kTok [105, 102]), .inr (a, Aa, ca), .inl (kTok [116, 104, 101, 110]), .inr (b, Ab, cb), .inl (kTok [101, 108, 115, 101]), .inr (d, Ad, cd)] : List Pt).flatMap partT).length ≤ 1099511627776 := by rw [toks_6] at hl; simpa [partT] using hl
  have hok : ∀ p ∈ ([.inl (kTok [105, 102]), .inr (a, Aa, ca), .inl (kTok [116, 104, 101, 110]), .inr (b, Ab, cb), .inl (kTok [101, 108, 115, 101]), .inr (d, Ad, cd)] : List Pt), partOk p := by
    intro p hp
    simp only [List.mem_cons, List.not_mem_nil, or_false] at hp
    rcases hp with rfl | rfl | rfl | rfl | rfl | rfl
    · exact .inl ⟨.inr (.inl rfl), rfl⟩
    · exact trivial
    · exact .inl ⟨.inr (.inl rfl), rfl⟩
    · exact trivial
    · exact .inl ⟨.inr (.inl rfl), rfl⟩
    · exact trivial
  have hkk : ∀ u, .inr u ∈ ([.inl (kTok [105, 102]), .inr (a, Aa, ca), .inl (kTok [116, 104, 101, 110]), .inr (b, Ab, cb), .inl (kTok [101, 108, 115, 101]), .inr (d, Ad, cd)] : List Pt) → KidStmt u.1 := by
    intro u hu
    simp at hu
    rcases hu with rfl | rfl | rfl
    · exact Ha
    · exact Hb
    · exact Hd
  have htt : ∀ u, .inr u ∈ ([.inl (kTok [105, 102]), .inr (a, Aa, ca), .inl (kTok [116, 104, 101, 110]), .inr (b, Ab, cb), .inl (kTok [101, 108, 115, 101]), .inr (d, Ad, cd)] : List Pt) → TmV V.drew (Out V.drew v) u.1 u.2.1 u.2.2 := by
    intro u hu
    simp at hu
    rcases hu with rfl | rfl | rfl
    · exact hva
    · exact hvb
    · exact hvd
  have kl0 := lay_new [.inl (kTok [105, 102]), .inr (a, Aa, ca), .inl (kTok [116, 104, 101, 110]), .inr (b, Ab, cb), .inl (kTok [101, 108, 115, 101]), .inr (d, Ad, cd)] hok hkk base v ts 6 V.drew 98 h8 hbs hEW hOW htt hlen (by show 6 ≤ _; decide)
  have kl : Calls Tryz.prog 31 #[v, .slice (some ⟨V.heap.size, 0, none⟩) 6 6] (V.drew.alloc (.cells #[.iface 76 (.string ⟨#[105, 102]⟩), .iface 78 (.agg #[.int .i64 a.kind, .string a.name, .int .i64 a.num, .slice Aa a.kids.length ca]), .iface 76 (.string ⟨#[116, 104, 101, 110]⟩), .iface 78 (.agg #[.int .i64 b.kind, .string b.name, .int .i64 b.num, .slice Ab b.kids.length cb]), .iface 76 (.string ⟨#[101, 108, 115, 101]⟩), .iface 78 (.agg #[.int .i64 d.kind, .string d.name, .int .i64 d.num, .slice Ad d.kids.length cd])] 98)) fun e w' => ∃ v', e = .returned v' ∧ LayPost base ts (([.inl (kTok [105, 102]), .inr (a, Aa, ca), .inl (kTok [116, 104, 101, 110]), .inr (b, Ab, cb), .inl (kTok [101, 108, 115, 101]), .inr (d, Ad, cd)] : List Pt).flatMap partT) V.drew v v' w' := kl0
  replace kl := Lib.hid kl
  have hend : Hid (∀ v' w', LayPost base ts (([.inl (kTok [105, 102]), .inr (a, Aa, ca), .inl (kTok [116, 104, 101, 110]), .inr (b, Ab, cb), .inl (kTok [101, 108, 115, 101]), .inr (d, Ad, cd)] : List Pt).flatMap partT) V.drew v v' w' → LayPost base ts (toksT (.node 6 ⟨#[]⟩ 0 [a, b, d])) w v v' w') := fun v' w' h => by
    have e : toksT (.node 6 ⟨#[]⟩ 0 [a, b, d]) = ([.inl (kTok [105, 102]), .inr (a, Aa, ca), .inl (kTok [116, 104, 101, 110]), .inr (b, Ab, cb), .inl (kTok [101, 108, 115, 101]), .inr (d, Ad, cd)] : List Pt).flatMap partT := by rw [toks_6]; first | rfl | simp [partT]
    rw [e]; exact h.of hgW
  have hS0 : (V).cell? ⟨kb, ko, none⟩ = some (.int .i64 a.kind) ∧ (V).cell? ⟨kb, ko + 1, none⟩ = some (.string a.name) ∧ (V).cell? ⟨kb, ko + 2, none⟩ = some (.int .i64 a.num) ∧ (V).cell? ⟨kb, ko + 3, none⟩ = some (.slice Aa a.kids.length ca) ∧ (V).cell? ⟨kb, ko + 4, none⟩ = some (.int .i64 b.kind) ∧ (V).cell? ⟨kb, ko + 4 + 1, none⟩ = some (.string b.name) ∧ (V).cell? ⟨kb, ko + 4 + 2, none⟩ = some (.int .i64 b.num) ∧ (V).cell? ⟨kb, ko + 4 + 3, none⟩ = some (.slice Ab b.kids.length cb) ∧ (V).cell? ⟨kb, ko + 8, none⟩ = some (.int .i64 d.kind) ∧ (V).cell? ⟨kb, ko + 8 + 1, none⟩ = some (.string d.name) ∧ (V).cell? ⟨kb, ko + 8 + 2, none⟩ = some (.int .i64 d.num) ∧ (V).cell? ⟨kb, ko + 8 + 3, none⟩ = some (.slice Ad d.kids.length cd) := ⟨ac0, ac1, ac2, ac3, bc0, bc1, bc2, bc3, dc0, dc1, dc2, dc3⟩
  have hSa : Hid (((V.alloc (.cells #[.iface 76 (.string ⟨#[105, 102]⟩), .iface 78 (.agg #[.int .i64 a.kind, .string a.name, .int .i64 a.num, .slice Aa a.kids.length ca]), .iface 76 (.string ⟨#[116, 104, 101, 110]⟩), .iface 78 (.agg #[.int .i64 b.kind, .string b.name, .int .i64 b.num, .slice Ab b.kids.length cb]), .iface 76 (.string ⟨#[101, 108, 115, 101]⟩), .iface 78 (.agg #[.int .i64 d.kind, .string d.name, .int .i64 d.num, .slice Ad d.kids.length cd])] 98)).drew).cell? ⟨kb, ko, none⟩ = some (.int .i64 a.kind) ∧ ((V.alloc (.cells #[.iface 76 (.string ⟨#[105, 102]⟩), .iface 78 (.agg #[.int .i64 a.kind, .string a.name, .int .i64 a.num, .slice Aa a.kids.length ca]), .iface 76 (.string ⟨#[116, 104, 101, 110]⟩), .iface 78 (.agg #[.int .i64 b.kind, .string b.name, .int .i64 b.num, .slice Ab b.kids.length cb]), .iface 76 (.string ⟨#[101, 108, 115, 101]⟩), .iface 78 (.agg #[.int .i64 d.kind, .string d.name, .int .i64 d.num, .slice Ad d.kids.length cd])] 98)).drew).cell? ⟨kb, ko + 1, none⟩ = some (.string a.name) ∧ ((V.alloc (.cells #[.iface 76 (.string ⟨#[105, 102]⟩), .iface 78 (.agg #[.int .i64 a.kind, .string a.name, .int .i64 a.num, .slice Aa a.kids.length ca]), .iface 76 (.string ⟨#[116, 104, 101, 110]⟩), .iface 78 (.agg #[.int .i64 b.kind, .string b.name, .int .i64 b.num, .slice Ab b.kids.length cb]), .iface 76 (.string ⟨#[101, 108, 115, 101]⟩), .iface 78 (.agg #[.int .i64 d.kind, .string d.name, .int .i64 d.num, .slice Ad d.kids.length cd])] 98)).drew).cell? ⟨kb, ko + 2, none⟩ = some (.int .i64 a.num) ∧ ((V.alloc (.cells #[.iface 76 (.string ⟨#[105, 102]⟩), .iface 78 (.agg #[.int .i64 a.kind, .string a.name, .int .i64 a.num, .slice Aa a.kids.length ca]), .iface 76 (.string ⟨#[116, 104, 101, 110]⟩), .iface 78 (.agg #[.int .i64 b.kind, .string b.name, .int .i64 b.num, .slice Ab b.kids.length cb]), .iface 76 (.string ⟨#[101, 108, 115, 101]⟩), .iface 78 (.agg #[.int .i64 d.kind, .string d.name, .int .i64 d.num, .slice Ad d.kids.length cd])] 98)).drew).cell? ⟨kb, ko + 3, none⟩ = some (.slice Aa a.kids.length ca) ∧ ((V.alloc (.cells #[.iface 76 (.string ⟨#[105, 102]⟩), .iface 78 (.agg #[.int .i64 a.kind, .string a.name, .int .i64 a.num, .slice Aa a.kids.length ca]), .iface 76 (.string ⟨#[116, 104, 101, 110]⟩), .iface 78 (.agg #[.int .i64 b.kind, .string b.name, .int .i64 b.num, .slice Ab b.kids.length cb]), .iface 76 (.string ⟨#[101, 108, 115, 101]⟩), .iface 78 (.agg #[.int .i64 d.kind, .string d.name, .int .i64 d.num, .slice Ad d.kids.length cd])] 98)).drew).cell? ⟨kb, ko + 4, none⟩ = some (.int .i64 b.kind) ∧ ((V.alloc (.cells #[.iface 76 (.string ⟨#[105, 102]⟩), .iface 78 (.agg #[.int .i64 a.kind, .string a.name, .int .i64 a.num, .slice Aa a.kids.length ca]), .iface 76 (.string ⟨#[116, 104, 101, 110]⟩), .iface 78 (.agg #[.int .i64 b.kind, .string b.name, .int .i64 b.num, .slice Ab b.kids.length cb]), .iface 76 (.string ⟨#[101, 108, 115, 101]⟩), .iface 78 (.agg #[.int .i64 d.kind, .string d.name, .int .i64 d.num, .slice Ad d.kids.length cd])] 98)).drew).cell? ⟨kb, ko + 4 + 1, none⟩ = some (.string b.name) ∧ ((V.alloc (.cells #[.iface 76 (.string ⟨#[105, 102]⟩), .iface 78 (.agg #[.int .i64 a.kind, .string a.name, .int .i64 a.num, .slice Aa a.kids.length ca]), .iface 76 (.string ⟨#[116, 104, 101, 110]⟩), .iface 78 (.agg #[.int .i64 b.kind, .string b.name, .int .i64 b.num, .slice Ab b.kids.length cb]), .iface 76 (.string ⟨#[101, 108, 115, 101]⟩), .iface 78 (.agg #[.int .i64 d.kind, .string d.name, .int .i64 d.num, .slice Ad d.kids.length cd])] 98)).drew).cell? ⟨kb, ko + 4 + 2, none⟩ = some (.int .i64 b.num) ∧ ((V.alloc (.cells #[.iface 76 (.string ⟨#[105, 102]⟩), .iface 78 (.agg #[.int .i64 a.kind, .string a.name, .int .i64 a.num, .slice Aa a.kids.length ca]), .iface 76 (.string ⟨#[116, 104, 101, 110]⟩), .iface 78 (.agg #[.int .i64 b.kind, .string b.name, .int .i64 b.num, .slice Ab b.kids.length cb]), .iface 76 (.string ⟨#[101, 108, 115, 101]⟩), .iface 78 (.agg #[.int .i64 d.kind, .string d.name, .int .i64 d.num, .slice Ad d.kids.length cd])] 98)).drew).cell? ⟨kb, ko + 4 + 3, none⟩ = some (.slice Ab b.kids.length cb) ∧ ((V.alloc (.cells #[.iface 76 (.string ⟨#[105, 102]⟩), .iface 78 (.agg #[.int .i64 a.kind, .string a.name, .int .i64 a.num, .slice Aa a.kids.length ca]), .iface 76 (.string ⟨#[116, 104, 101, 110]⟩), .iface 78 (.agg #[.int .i64 b.kind, .string b.name, .int .i64 b.num, .slice Ab b.kids.length cb]), .iface 76 (.string ⟨#[101, 108, 115, 101]⟩), .iface 78 (.agg #[.int .i64 d.kind, .string d.name, .int .i64 d.num, .slice Ad d.kids.length cd])] 98)).drew).cell? ⟨kb, ko + 8, none⟩ = some (.int .i64 d.kind) ∧ ((V.alloc (.cells #[.iface 76 (.string ⟨#[105, 102]⟩), .iface 78 (.agg #[.int .i64 a.kind, .string a.name, .int .i64 a.num, .slice Aa a.kids.length ca]), .iface 76 (.string ⟨#[116, 104, 101, 110]⟩), .iface 78 (.agg #[.int .i64 b.kind, .string b.name, .int .i64 b.num, .slice Ab b.kids.length cb]), .iface 76 (.string ⟨#[101, 108, 115, 101]⟩), .iface 78 (.agg #[.int .i64 d.kind, .string d.name, .int .i64 d.num, .slice Ad d.kids.length cd])] 98)).drew).cell? ⟨kb, ko + 8 + 1, none⟩ = some (.string d.name) ∧ ((V.alloc (.cells #[.iface 76 (.string ⟨#[105, 102]⟩), .iface 78 (.agg #[.int .i64 a.kind, .string a.name, .int .i64 a.num, .slice Aa a.kids.length ca]), .iface 76 (.string ⟨#[116, 104, 101, 110]⟩), .iface 78 (.agg #[.int .i64 b.kind, .string b.name, .int .i64 b.num, .slice Ab b.kids.length cb]), .iface 76 (.string ⟨#[101, 108, 115, 101]⟩), .iface 78 (.agg #[.int .i64 d.kind, .string d.name, .int .i64 d.num, .slice Ad d.kids.length cd])] 98)).drew).cell? ⟨kb, ko + 8 + 2, none⟩ = some (.int .i64 d.num) ∧ ((V.alloc (.cells #[.iface 76 (.string ⟨#[105, 102]⟩), .iface 78 (.agg #[.int .i64 a.kind, .string a.name, .int .i64 a.num, .slice Aa a.kids.length ca]), .iface 76 (.string ⟨#[116, 104, 101, 110]⟩), .iface 78 (.agg #[.int .i64 b.kind, .string b.name, .int .i64 b.num, .slice Ab b.kids.length cb]), .iface 76 (.string ⟨#[101, 108, 115, 101]⟩), .iface 78 (.agg #[.int .i64 d.kind, .string d.name, .int .i64 d.num, .slice Ad d.kids.length cd])] 98)).drew).cell? ⟨kb, ko + 8 + 3, none⟩ = some (.slice Ad d.kids.length cd)) := ⟨((later_alloc V (.cells #[.iface 76 (.string ⟨#[105, 102]⟩), .iface 78 (.agg #[.int .i64 a.kind, .string a.name, .int .i64 a.num, .slice Aa a.kids.length ca]), .iface 76 (.string ⟨#[116, 104, 101, 110]⟩), .iface 78 (.agg #[.int .i64 b.kind, .string b.name, .int .i64 b.num, .slice Ab b.kids.length cb]), .iface 76 (.string ⟨#[101, 108, 115, 101]⟩), .iface 78 (.agg #[.int .i64 d.kind, .string d.name, .int .i64 d.num, .slice Ad d.kids.length cd])] 98)).cell (p := ⟨kb, ko, none⟩) hkba).trans ac0, ((later_alloc V (.cells #[.iface 76 (.string ⟨#[105, 102]⟩), .iface 78 (.agg #[.int .i64 a.kind, .string a.name, .int .i64 a.num, .slice Aa a.kids.length ca]), .iface 76 (.string ⟨#[116, 104, 101, 110]⟩), .iface 78 (.agg #[.int .i64 b.kind, .string b.name, .int .i64 b.num, .slice Ab b.kids.length cb]), .iface 76 (.string ⟨#[101, 108, 115, 101]⟩), .iface 78 (.agg #[.int .i64 d.kind, .string d.name, .int .i64 d.num, .slice Ad d.kids.length cd])] 98)).cell (p := ⟨kb, ko + 1, none⟩) hkba).trans ac1, ((later_alloc V (.cells #[.iface 76 (.string ⟨#[105, 102]⟩), .iface 78 (.agg #[.int .i64 a.kind, .string a.name, .int .i64 a.num, .slice Aa a.kids.length ca]), .iface 76 (.string ⟨#[116, 104, 101, 110]⟩), .iface 78 (.agg #[.int .i64 b.kind, .string b.name, .int .i64 b.num, .slice Ab b.kids.length cb]), .iface 76 (.string ⟨#[101, 108, 115, 101]⟩), .iface 78 (.agg #[.int .i64 d.kind, .string d.name, .int .i64 d.num, .slice Ad d.kids.length cd])] 98)).cell (p := ⟨kb, ko + 2, none⟩) hkba).trans ac2, ((later_alloc V (.cells #[.iface 76 (.string ⟨#[105, 102]⟩), .iface 78 (.agg #[.int .i64 a.kind, .string a.name, .int .i64 a.num, .slice Aa a.kids.length ca]), .iface 76 (.string ⟨#[116, 104, 101, 110]⟩), .iface 78 (.agg #[.int .i64 b.kind, .string b.name, .int .i64 b.num, .slice Ab b.kids.length cb]), .iface 76 (.string ⟨#[101, 108, 115, 101]⟩), .iface 78 (.agg #[.int .i64 d.kind, .string d.name, .int .i64 d.num, .slice Ad d.kids.length cd])] 98)).cell (p := ⟨kb, ko + 3, none⟩) hkba).trans ac3, ((later_alloc V (.cells #[.iface 76 (.string ⟨#[105, 102]⟩), .iface 78 (.agg #[.int .i64 a.kind, .string a.name, .int .i64 a.num, .slice Aa a.kids.length ca]), .iface 76 (.string ⟨#[116, 104, 101, 110]⟩), .iface 78 (.agg #[.int .i64 b.kind, .string b.name, .int .i64 b.num, .slice Ab b.kids.length cb]), .iface 76 (.string ⟨#[101, 108, 115, 101]⟩), .iface 78 (.agg #[.int .i64 d.kind, .string d.name, .int .i64 d.num, .slice Ad d.kids.length cd])] 98)).cell (p := ⟨kb, ko + 4, none⟩) hkba).trans bc0, ((later_alloc V (.cells #[.iface 76 (.string ⟨#[105, 102]⟩), .iface 78 (.agg #[.int .i64 a.kind, .string a.name, .int .i64 a.num, .slice Aa a.kids.length ca]), .iface 76 (.string ⟨#[116, 104, 101, 110]⟩), .iface 78 (.agg #[.int .i64 b.kind, .string b.name, .int .i64 b.num, .slice Ab b.kids.length cb]), .iface 76 (.string ⟨#[101, 108, 115, 101]⟩), .iface 78 (.agg #[.int .i64 d.kind, .string d.name, .int .i64 d.num, .slice Ad d.kids.length cd])] 98)).cell (p := ⟨kb, ko + 4 + 1, none⟩) hkba).trans bc1, ((later_alloc V (.cells #[.iface 76 (.string ⟨#[105, 102]⟩), .iface 78 (.agg #[.int .i64 a.kind, .string a.name, .int .i64 a.num, .slice Aa a.kids.length ca]), .iface 76 (.string ⟨#[116, 104, 101, 110]⟩), .iface 78 (.agg #[.int .i64 b.kind, .string b.name, .int .i64 b.num, .slice Ab b.kids.length cb]), .iface 76 (.string ⟨#[101, 108, 115, 101]⟩), .iface 78 (.agg #[.int .i64 d.kind, .string d.name, .int .i64 d.num, .slice Ad d.kids.length cd])] 98)).cell (p := ⟨kb, ko + 4 + 2, none⟩) hkba).trans bc2, ((later_alloc V (.cells #[.iface 76 (.string ⟨#[105, 102]⟩), .iface 78 (.agg #[.int .i64 a.kind, .string a.name, .int .i64 a.num, .slice Aa a.kids.length ca]), .iface 76 (.string ⟨#[116, 104, 101, 110]⟩), .iface 78 (.agg #[.int .i64 b.kind, .string b.name, .int .i64 b.num, .slice Ab b.kids.length cb]), .iface 76 (.string ⟨#[101, 108, 115, 101]⟩), .iface 78 (.agg #[.int .i64 d.kind, .string d.name, .int .i64 d.num, .slice Ad d.kids.length cd])] 98)).cell (p := ⟨kb, ko + 4 + 3, none⟩) hkba).trans bc3, ((later_alloc V (.cells #[.iface 76 (.string ⟨#[105, 102]⟩), .iface 78 (.agg #[.int .i64 a.kind, .string a.name, .int .i64 a.num, .slice Aa a.kids.length ca]), .iface 76 (.string ⟨#[116, 104, 101, 110]⟩), .iface 78 (.agg #[.int .i64 b.kind, .string b.name, .int .i64 b.num, .slice Ab b.kids.length cb]), .iface 76 (.string ⟨#[101, 108, 115, 101]⟩), .iface 78 (.agg #[.int .i64 d.kind, .string d.name, .int .i64 d.num, .slice Ad d.kids.length cd])] 98)).cell (p := ⟨kb, ko + 8, none⟩) hkba).trans dc0, ((later_alloc V (.cells #[.iface 76 (.string ⟨#[105, 102]⟩), .iface 78 (.agg #[.int .i64 a.kind, .string a.name, .int .i64 a.num, .slice Aa a.kids.length ca]), .iface 76 (.string ⟨#[116, 104, 101, 110]⟩), .iface 78 (.agg #[.int .i64 b.kind, .string b.name, .int .i64 b.num, .slice Ab b.kids.length cb]), .iface 76 (.string ⟨#[101, 108, 115, 101]⟩), .iface 78 (.agg #[.int .i64 d.kind, .string d.name, .int .i64 d.num, .slice Ad d.kids.length cd])] 98)).cell (p := ⟨kb, ko + 8 + 1, none⟩) hkba).trans dc1, ((later_alloc V (.cells #[.iface 76 (.string ⟨#[105, 102]⟩), .iface 78 (.agg #[.int .i64 a.kind, .string a.name, .int .i64 a.num, .slice Aa a.kids.length ca]), .iface 76 (.string ⟨#[116, 104, 101, 110]⟩), .iface 78 (.agg #[.int .i64 b.kind, .string b.name, .int .i64 b.num, .slice Ab b.kids.length cb]), .iface 76 (.string ⟨#[101, 108, 115, 101]⟩), .iface 78 (.agg #[.int .i64 d.kind, .string d.name, .int .i64 d.num, .slice Ad d.kids.length cd])] 98)).cell (p := ⟨kb, ko + 8 + 2, none⟩) hkba).trans dc2, ((later_alloc V (.cells #[.iface 76 (.string ⟨#[105, 102]⟩), .iface 78 (.agg #[.int .i64 a.kind, .string a.name, .int .i64 a.num, .slice Aa a.kids.length ca]), .iface 76 (.string ⟨#[116, 104, 101, 110]⟩), .iface 78 (.agg #[.int .i64 b.kind, .string b.name, .int .i64 b.num, .slice Ab b.kids.length cb]), .iface 76 (.string ⟨#[101, 108, 115, 101]⟩), .iface 78 (.agg #[.int .i64 d.kind, .string d.name, .int .i64 d.num, .slice Ad d.kids.length cd])] 98)).cell (p := ⟨kb, ko + 8 + 3, none⟩) hkba).trans dc3⟩
  have hSk : Hid (∀ v1 w1, LayPost base ts (([.inl (kTok [105, 102]), .inr (a, Aa, ca), .inl (kTok [116, 104, 101, 110]), .inr (b, Ab, cb), .inl (kTok [101, 108, 115, 101]), .inr (d, Ad, cd)] : List Pt).flatMap partT) V.drew v v1 w1 → (w1).cell? ⟨kb, ko, none⟩ = some (.int .i64 a.kind) ∧ (w1).cell? ⟨kb, ko + 1, none⟩ = some (.string a.name) ∧ (w1).cell? ⟨kb, ko + 2, none⟩ = some (.int .i64 a.num) ∧ (w1).cell? ⟨kb, ko + 3, none⟩ = some (.slice Aa a.kids.length ca) ∧ (w1).cell? ⟨kb, ko + 4, none⟩ = some (.int .i64 b.kind) ∧ (w1).cell? ⟨kb, ko + 4 + 1, none⟩ = some (.string b.name) ∧ (w1).cell? ⟨kb, ko + 4 + 2, none⟩ = some (.int .i64 b.num) ∧ (w1).cell? ⟨kb, ko + 4 + 3, none⟩ = some (.slice Ab b.kids.length cb) ∧ (w1).cell? ⟨kb, ko + 8, none⟩ = some (.int .i64 d.kind) ∧ (w1).cell? ⟨kb, ko + 8 + 1, none⟩ = some (.string d.name) ∧ (w1).cell? ⟨kb, ko + 8 + 2, none⟩ = some (.int .i64 d.num) ∧ (w1).cell? ⟨kb, ko + 8 + 3, none⟩ = some (.slice Ad d.kids.length cd)) := fun v1 w1 h => ⟨(h.2.cell (b := kb) (o := ko) hokb).trans ac0, (h.2.cell (b := kb) (o := ko + 1) hokb).trans ac1, (h.2.cell (b := kb) (o := ko + 2) hokb).trans ac2, (h.2.cell (b := kb) (o := ko + 3) hokb).trans ac3, (h.2.cell (b := kb) (o := ko + 4) hokb).trans bc0, (h.2.cell (b := kb) (o := ko + 4 + 1) hokb).trans bc1, (h.2.cell (b := kb) (o := ko + 4 + 2) hokb).trans bc2, (h.2.cell (b := kb) (o := ko + 4 + 3) hokb).trans bc3, (h.2.cell (b := kb) (o := ko + 8) hokb).trans dc0, (h.2.cell (b := kb) (o := ko + 8 + 1) hokb).trans dc1, (h.2.cell (b := kb) (o := ko + 8 + 2) hokb).trans dc2, (h.2.cell (b := kb) (o := ko + 8 + 3) hokb).trans dc3⟩
  clear kl0 hbV hbW hgW hEW hOW hTW hT hown hE hok hkk htt hlen hl hva hvb hvd
  replace hbx := Lib.hid hbx
  replace hV := Lib.hid hV
  replace hVs := Lib.hid hVs
  go_enter Tryz.func17, Tryz.ntmps17
  go_wp2_with fail
  try rw [hV.out]
  go_region_held3 (fun w' => (w').cell? ⟨kb, ko, none⟩ = some (.int .i64 a.kind) ∧ (w').cell? ⟨kb, ko + 1, none⟩ = some (.string a.name) ∧ (w').cell? ⟨kb, ko + 2, none⟩ = some (.int .i64 a.num) ∧ (w').cell? ⟨kb, ko + 3, none⟩ = some (.slice Aa a.kids.length ca) ∧ (w').cell? ⟨kb, ko + 4, none⟩ = some (.int .i64 b.kind) ∧ (w').cell? ⟨kb, ko + 4 + 1, none⟩ = some (.string b.name) ∧ (w').cell? ⟨kb, ko + 4 + 2, none⟩ = some (.int .i64 b.num) ∧ (w').cell? ⟨kb, ko + 4 + 3, none⟩ = some (.slice Ab b.kids.length cb) ∧ (w').cell? ⟨kb, ko + 8, none⟩ = some (.int .i64 d.kind) ∧ (w').cell? ⟨kb, ko + 8 + 1, none⟩ = some (.string d.name) ∧ (w').cell? ⟨kb, ko + 8 + 2, none⟩ = some (.int .i64 d.num) ∧ (w').cell? ⟨kb, ko + 8 + 3, none⟩ = some (.slice Ad d.kids.length cd)) (first | exact hS0 | exact hSa.out | exact hS1.out) (first | (go_at_call 31; refine kl.out.mono ?_; rintro e w1 ⟨v1, rfl, hp⟩; have hS1 := Lib.hid (hSk.out _ _ hp); replace hp := Lib.hid (hend.out _ _ hp); clear kl))
  all_goals go_wp2
  all_goals go_ret
  all_goals exact ⟨_, rfl, hp.out⟩

set_option maxRecDepth 100000 in
set_option maxHeartbeats 4000000 in
theorem laid_11  (a : Go.Tm.T) (b : Go.Tm.T) (Ha : KidStmt a) (Hb : KidStmt b) : LaidStmt (.node 11 ⟨#[]⟩ 0 [a, b]) := fun base v ts A c w h8 hbase hE hown hT hl => by
  have hbV : Below w.heap.size w (w.alloc (.cells #[.int .i64 11, .string ⟨#[]⟩, .int .i64 0, .slice A 2 c] 24)) := later_alloc _ _
  have hbx : (w.alloc (.cells #[.int .i64 11, .string ⟨#[]⟩, .int .i64 0, .slice A 2 c] 24)).heap[w.heap.size]? = some (.cells #[.int .i64 11, .string ⟨#[]⟩, .int .i64 0, .slice A 2 c] 24 (0, 0)) := World.alloc_heap_new _ _
  have hVs : (w.alloc (.cells #[.int .i64 11, .string ⟨#[]⟩, .int .i64 0, .slice A 2 c] 24)).heap.size = w.heap.size + 1 := by simp
  show Calls Tryz.prog 17 #[v, .agg #[.int .i64 11, .string ⟨#[]⟩, .int .i64 0, .slice A 2 c]] w _
  obtain ⟨V, hV⟩ : ∃ V, w.alloc (.cells #[.int .i64 11, .string ⟨#[]⟩, .int .i64 0, .slice A 2 c] 24) = V := ⟨_, rfl⟩
  rw [hV] at hbV hbx hVs
  have hbW : Below w.heap.size w V.drew := hbV.drew
  have hgW : Gr w V.drew v v := Gr.of_below hbW
  have hEW := hE.below (Nat.le_refl _) (hbW.mono hE.size)
  have hOW := own_below3 hown hbW
  have hTW := hgW.tm hT
  have hbs : base ≤ (V.drew).heap.size := Nat.le_trans hbase hbW.size
  have i0 := cell_of_row V w.heap.size 0 _ _ _ hbx
  have i1 := cell_of_row V w.heap.size 1 _ _ _ hbx
  have i2 := cell_of_row V w.heap.size 2 _ _ _ hbx
  have i3 := cell_of_row V w.heap.size 3 _ _ _ hbx
  have hlv : w.heap.size < V.heap.size := by omega
  have hob : Out V.drew v w.heap.size := ⟨hlv, fun e => by have := own_lt3 hown _ e; omega⟩
  obtain ⟨kb, ko, rfl, hrow⟩ := hTW.row.resolve_left (fun e => by cases e)
  obtain ⟨Aa, ca, hha, hva⟩ := node_tmv (hrow.get 0 (by show _ < 2; decide))
  replace hva : TmV V.drew (Out V.drew v) a Aa ca := hva
  have ac0 : V.cell? ⟨kb, ko, none⟩ = some (.int .i64 a.kind) := hha.kind
  have ac1 : V.cell? ⟨kb, ko + 1, none⟩ = some (.string a.name) := hha.name
  have ac2 : V.cell? ⟨kb, ko + 2, none⟩ = some (.int .i64 a.num) := hha.num
  have ac3 : V.cell? ⟨kb, ko + 3, none⟩ = some (.slice Aa a.kids.length ca) := hha.kids
  have hkba : kb < V.heap.size := hha.at_.1
  have hokb : Out V.drew v kb := hha.at_
  clear hha
  obtain ⟨Ab, cb, hhb, hvb⟩ := node_tmv (hrow.get 1 (by show _ < 2; decide))
  replace hvb : TmV V.drew (Out V.drew v) b Ab cb := hvb
  have bc0 : V.cell? ⟨kb, ko + 4, none⟩ = some (.int .i64 b.kind) := hhb.kind
  have bc1 : V.cell? ⟨kb, ko + 4 + 1, none⟩ = some (.string b.name) := hhb.name
  have bc2 : V.cell? ⟨kb, ko + 4 + 2, none⟩ = some (.int .i64 b.num) := hhb.num
  have bc3 : V.cell? ⟨kb, ko + 4 + 3, none⟩ = some (.slice Ab b.kids.length cb) := hhb.kids
  clear hhb
  clear hrow
  have hlen : ts.length + (([.inr (a, Aa, ca), .inl (mTok [58, 61]), .inr (b, Ab, cb)] : List Pt).flatMap partT).length ≤ 1099511627776 := by rw [toks_11] at hl; simpa [partT] using hl
  have hok : ∀ p ∈ ([.inr (a, Aa, ca), .inl (mTok [58, 61]), .inr (b, Ab, cb)] : List Pt), partOk p := by
    intro p hp
    simp only [List.mem_cons, List.not_mem_nil, or_false] at hp
    rcases hp with rfl | rfl | rfl
    · exact trivial
    · exact .inl ⟨.inr (.inr rfl), rfl⟩
    · exact trivial
  have hkk : ∀ u, .inr u ∈ ([.inr (a, Aa, ca), .inl (mTok [58, 61]), .inr (b, Ab, cb)] : List Pt) → KidStmt u.1 := by
    intro u hu
    simp at hu
    rcases hu with rfl | rfl
    · exact Ha
    · exact Hb
  have htt : ∀ u, .inr u ∈ ([.inr (a, Aa, ca), .inl (mTok [58, 61]), .inr (b, Ab, cb)] : List Pt) → TmV V.drew (Out V.drew v) u.1 u.2.1 u.2.2 := by
    intro u hu
    simp at hu
    rcases hu with rfl | rfl
    · exact hva
    · exact hvb
  have kl0 := lay_new [.inr (a, Aa, ca), .inl (mTok [58, 61]), .inr (b, Ab, cb)] hok hkk base v ts 3 V.drew 98 h8 hbs hEW hOW htt hlen (by show 3 ≤ _; decide)
  have kl : Calls Tryz.prog 31 #[v, .slice (some ⟨V.heap.size, 0, none⟩) 3 3] (V.drew.alloc (.cells #[.iface 78 (.agg #[.int .i64 a.kind, .string a.name, .int .i64 a.num, .slice Aa a.kids.length ca]), .iface 77 (.string ⟨#[58, 61]⟩), .iface 78 (.agg #[.int .i64 b.kind, .string b.name, .int .i64 b.num, .slice Ab b.kids.length cb])] 98)) fun e w' => ∃ v', e = .returned v' ∧ LayPost base ts (([.inr (a, Aa, ca), .inl (mTok [58, 61]), .inr (b, Ab, cb)] : List Pt).flatMap partT) V.drew v v' w' := kl0
  replace kl := Lib.hid kl
  have hend : Hid (∀ v' w', LayPost base ts (([.inr (a, Aa, ca), .inl (mTok [58, 61]), .inr (b, Ab, cb)] : List Pt).flatMap partT) V.drew v v' w' → LayPost base ts (toksT (.node 11 ⟨#[]⟩ 0 [a, b])) w v v' w') := fun v' w' h => by
    have e : toksT (.node 11 ⟨#[]⟩ 0 [a, b]) = ([.inr (a, Aa, ca), .inl (mTok [58, 61]), .inr (b, Ab, cb)] : List Pt).flatMap partT := by rw [toks_11]; first | rfl | simp [partT]
    rw [e]; exact h.of hgW
  have hS0 : (V).cell? ⟨kb, ko, none⟩ = some (.int .i64 a.kind) ∧ (V).cell? ⟨kb, ko + 1, none⟩ = some (.string a.name) ∧ (V).cell? ⟨kb, ko + 2, none⟩ = some (.int .i64 a.num) ∧ (V).cell? ⟨kb, ko + 3, none⟩ = some (.slice Aa a.kids.length ca) ∧ (V).cell? ⟨kb, ko + 4, none⟩ = some (.int .i64 b.kind) ∧ (V).cell? ⟨kb, ko + 4 + 1, none⟩ = some (.string b.name) ∧ (V).cell? ⟨kb, ko + 4 + 2, none⟩ = some (.int .i64 b.num) ∧ (V).cell? ⟨kb, ko + 4 + 3, none⟩ = some (.slice Ab b.kids.length cb) := ⟨ac0, ac1, ac2, ac3, bc0, bc1, bc2, bc3⟩
  have hSa : Hid (((V.alloc (.cells #[.iface 78 (.agg #[.int .i64 a.kind, .string a.name, .int .i64 a.num, .slice Aa a.kids.length ca]), .iface 77 (.string ⟨#[58, 61]⟩), .iface 78 (.agg #[.int .i64 b.kind, .string b.name, .int .i64 b.num, .slice Ab b.kids.length cb])] 98)).drew).cell? ⟨kb, ko, none⟩ = some (.int .i64 a.kind) ∧ ((V.alloc (.cells #[.iface 78 (.agg #[.int .i64 a.kind, .string a.name, .int .i64 a.num, .slice Aa a.kids.length ca]), .iface 77 (.string ⟨#[58, 61]⟩), .iface 78 (.agg #[.int .i64 b.kind, .string b.name, .int .i64 b.num, .slice Ab b.kids.length cb])] 98)).drew).cell? ⟨kb, ko + 1, none⟩ = some (.string a.name) ∧ ((V.alloc (.cells #[.iface 78 (.agg #[.int .i64 a.kind, .string a.name, .int .i64 a.num, .slice Aa a.kids.length ca]), .iface 77 (.string ⟨#[58, 61]⟩), .iface 78 (.agg #[.int .i64 b.kind, .string b.name, .int .i64 b.num, .slice Ab b.kids.length cb])] 98)).drew).cell? ⟨kb, ko + 2, none⟩ = some (.int .i64 a.num) ∧ ((V.alloc (.cells #[.iface 78 (.agg #[.int .i64 a.kind, .string a.name, .int .i64 a.num, .slice Aa a.kids.length ca]), .iface 77 (.string ⟨#[58, 61]⟩), .iface 78 (.agg #[.int .i64 b.kind, .string b.name, .int .i64 b.num, .slice Ab b.kids.length cb])] 98)).drew).cell? ⟨kb, ko + 3, none⟩ = some (.slice Aa a.kids.length ca) ∧ ((V.alloc (.cells #[.iface 78 (.agg #[.int .i64 a.kind, .string a.name, .int .i64 a.num, .slice Aa a.kids.length ca]), .iface 77 (.string ⟨#[58, 61]⟩), .iface 78 (.agg #[.int .i64 b.kind, .string b.name, .int .i64 b.num, .slice Ab b.kids.length cb])] 98)).drew).cell? ⟨kb, ko + 4, none⟩ = some (.int .i64 b.kind) ∧ ((V.alloc (.cells #[.iface 78 (.agg #[.int .i64 a.kind, .string a.name, .int .i64 a.num, .slice Aa a.kids.length ca]), .iface 77 (.string ⟨#[58, 61]⟩), .iface 78 (.agg #[.int .i64 b.kind, .string b.name, .int .i64 b.num, .slice Ab b.kids.length cb])] 98)).drew).cell? ⟨kb, ko + 4 + 1, none⟩ = some (.string b.name) ∧ ((V.alloc (.cells #[.iface 78 (.agg #[.int .i64 a.kind, .string a.name, .int .i64 a.num, .slice Aa a.kids.length ca]), .iface 77 (.string ⟨#[58, 61]⟩), .iface 78 (.agg #[.int .i64 b.kind, .string b.name, .int .i64 b.num, .slice Ab b.kids.length cb])] 98)).drew).cell? ⟨kb, ko + 4 + 2, none⟩ = some (.int .i64 b.num) ∧ ((V.alloc (.cells #[.iface 78 (.agg #[.int .i64 a.kind, .string a.name, .int .i64 a.num, .slice Aa a.kids.length ca]), .iface 77 (.string ⟨#[58, 61]⟩), .iface 78 (.agg #[.int .i64 b.kind, .string b.name, .int .i64 b.num, .slice Ab b.kids.length cb])] 98)).drew).cell? ⟨kb, ko + 4 + 3, none⟩ = some (.slice Ab b.kids.length cb)) := ⟨((later_alloc V (.cells #[.iface 78 (.agg #[.int .i64 a.kind, .string a.name, .int .i64 a.num, .slice Aa a.kids.length ca]), .iface 77 (.string ⟨#[58, 61]⟩), .iface 78 (.agg #[.int .i64 b.kind, .string b.name, .int .i64 b.num, .slice Ab b.kids.length cb])] 98)).cell (p := ⟨kb, ko, none⟩) hkba).trans ac0, ((later_alloc V (.cells #[.iface 78 (.agg #[.int .i64 a.kind, .string a.name, .int .i64 a.num, .slice Aa a.kids.length ca]), .iface 77 (.string ⟨#[58, 61]⟩), .iface 78 (.agg #[.int .i64 b.kind, .string b.name, .int .i64 b.num, .slice Ab b.kids.length cb])] 98)).cell (p := ⟨kb, ko + 1, none⟩) hkba).trans ac1, ((later_alloc V (.cells #[.iface 78 (.agg #[.int .i64 a.kind, .string a.name, .int .i64 a.num, .slice Aa a.kids.length ca]), .iface 77 (.string ⟨#[58, 61]⟩), .iface 78 (.agg #[.int .i64 b.kind, .string b.name, .int .i64 b.num, .slice Ab b.kids.length cb])] 98)).cell (p := ⟨kb, ko + 2, none⟩) hkba).trans ac2, ((later_alloc V (.cells #[.iface 78 (.agg #[.int .i64 a.kind, .string a.name, .int .i64 a.num, .slice Aa a.kids.length ca]), .iface 77 (.string ⟨#[58, 61]⟩), .iface 78 (.agg #[.int .i64 b.kind, .string b.name, .int .i64 b.num, .slice Ab b.kids.length cb])] 98)).cell (p := ⟨kb, ko + 3, none⟩) hkba).trans ac3, ((later_alloc V (.cells #[.iface 78 (.agg #[.int .i64 a.kind, .string a.name, .int .i64 a.num, .slice Aa a.kids.length ca]), .iface 77 (.string ⟨#[58, 61]⟩), .iface 78 (.agg #[.int .i64 b.kind, .string b.name, .int .i64 b.num, .slice Ab b.kids.length cb])] 98)).cell (p := ⟨kb, ko + 4, none⟩) hkba).trans bc0, ((later_alloc V (.cells #[.iface 78 (.agg #[.int .i64 a.kind, .string a.name, .int .i64 a.num, .slice Aa a.kids.length ca]), .iface 77 (.string ⟨#[58, 61]⟩), .iface 78 (.agg #[.int .i64 b.kind, .string b.name, .int .i64 b.num, .slice Ab b.kids.length cb])] 98)).cell (p := ⟨kb, ko + 4 + 1, none⟩) hkba).trans bc1, ((later_alloc V (.cells #[.iface 78 (.agg #[.int .i64 a.kind, .string a.name, .int .i64 a.num, .slice Aa a.kids.length ca]), .iface 77 (.string ⟨#[58, 61]⟩), .iface 78 (.agg #[.int .i64 b.kind, .string b.name, .int .i64 b.num, .slice Ab b.kids.length cb])] 98)).cell (p := ⟨kb, ko + 4 + 2, none⟩) hkba).trans bc2, ((later_alloc V (.cells #[.iface 78 (.agg #[.int .i64 a.kind, .string a.name, .int .i64 a.num, .slice Aa a.kids.length ca]), .iface 77 (.string ⟨#[58, 61]⟩), .iface 78 (.agg #[.int .i64 b.kind, .string b.name, .int .i64 b.num, .slice Ab b.kids.length cb])] 98)).cell (p := ⟨kb, ko + 4 + 3, none⟩) hkba).trans bc3⟩
  have hSk : Hid (∀ v1 w1, LayPost base ts (([.inr (a, Aa, ca), .inl (mTok [58, 61]), .inr (b, Ab, cb)] : List Pt).flatMap partT) V.drew v v1 w1 → (w1).cell? ⟨kb, ko, none⟩ = some (.int .i64 a.kind) ∧ (w1).cell? ⟨kb, ko + 1, none⟩ = some (.string a.name) ∧ (w1).cell? ⟨kb, ko + 2, none⟩ = some (.int .i64 a.num) ∧ (w1).cell? ⟨kb, ko + 3, none⟩ = some (.slice Aa a.kids.length ca) ∧ (w1).cell? ⟨kb, ko + 4, none⟩ = some (.int .i64 b.kind) ∧ (w1).cell? ⟨kb, ko + 4 + 1, none⟩ = some (.string b.name) ∧ (w1).cell? ⟨kb, ko + 4 + 2, none⟩ = some (.int .i64 b.num) ∧ (w1).cell? ⟨kb, ko + 4 + 3, none⟩ = some (.slice Ab b.kids.length cb)) := fun v1 w1 h => ⟨(h.2.cell (b := kb) (o := ko) hokb).trans ac0, (h.2.cell (b := kb) (o := ko + 1) hokb).trans ac1, (h.2.cell (b := kb) (o := ko + 2) hokb).trans ac2, (h.2.cell (b := kb) (o := ko + 3) hokb).trans ac3, (h.2.cell (b := kb) (o := ko + 4) hokb).trans bc0, (h.2.cell (b := kb) (o := ko + 4 + 1) hokb).trans bc1, (h.2.cell (b := kb) (o := ko + 4 + 2) hokb).trans bc2, (h.2.cell (b := kb) (o := ko + 4 + 3) hokb).trans bc3⟩
  clear kl0 hbV hbW hgW hEW hOW hTW hT hown hE hok hkk htt hlen hl hva hvb
  replace hbx := Lib.hid hbx
  replace hV := Lib.hid hV
  replace hVs := Lib.hid hVs
  go_enter Tryz.func17, Tryz.ntmps17
  go_wp2_with fail
  try rw [hV.out]
  go_region_held3 (fun w' => (w').cell? ⟨kb, ko, none⟩ = some (.int .i64 a.kind) ∧ (w').cell? ⟨kb, ko + 1, none⟩ = some (.string a.name) ∧ (w').cell? ⟨kb, ko + 2, none⟩ = some (.int .i64 a.num) ∧ (w').cell? ⟨kb, ko + 3, none⟩ = some (.slice Aa a.kids.length ca) ∧ (w').cell? ⟨kb, ko + 4, none⟩ = some (.int .i64 b.kind) ∧ (w').cell? ⟨kb, ko + 4 + 1, none⟩ = some (.string b.name) ∧ (w').cell? ⟨kb, ko + 4 + 2, none⟩ = some (.int .i64 b.num) ∧ (w').cell? ⟨kb, ko + 4 + 3, none⟩ = some (.slice Ab b.kids.length cb)) (first | exact hS0 | exact hSa.out | exact hS1.out) (first | (go_at_call 31; refine kl.out.mono ?_; rintro e w1 ⟨v1, rfl, hp⟩; have hS1 := Lib.hid (hSk.out _ _ hp); replace hp := Lib.hid (hend.out _ _ hp); clear kl))
  all_goals go_wp2
  all_goals go_ret
  all_goals exact ⟨_, rfl, hp.out⟩

set_option maxRecDepth 100000 in
set_option maxHeartbeats 4000000 in
theorem laid_12 (s : ByteArray)  (a : Go.Tm.T) (b : Go.Tm.T) (Ha : KidStmt a) (Hb : KidStmt b) : LaidStmt (.node 12 s 0 [a, b]) := fun base v ts A c w h8 hbase hE hown hT hl => by
  have hbV : Below w.heap.size w (w.alloc (.cells #[.int .i64 12, .string s, .int .i64 0, .slice A 2 c] 24)) := later_alloc _ _
  have hbx : (w.alloc (.cells #[.int .i64 12, .string s, .int .i64 0, .slice A 2 c] 24)).heap[w.heap.size]? = some (.cells #[.int .i64 12, .string s, .int .i64 0, .slice A 2 c] 24 (0, 0)) := World.alloc_heap_new _ _
  have hVs : (w.alloc (.cells #[.int .i64 12, .string s, .int .i64 0, .slice A 2 c] 24)).heap.size = w.heap.size + 1 := by simp
  show Calls Tryz.prog 17 #[v, .agg #[.int .i64 12, .string s, .int .i64 0, .slice A 2 c]] w _
  obtain ⟨V, hV⟩ : ∃ V, w.alloc (.cells #[.int .i64 12, .string s, .int .i64 0, .slice A 2 c] 24) = V := ⟨_, rfl⟩
  rw [hV] at hbV hbx hVs
  have hbW : Below w.heap.size w V.drew := hbV.drew
  have hgW : Gr w V.drew v v := Gr.of_below hbW
  have hEW := hE.below (Nat.le_refl _) (hbW.mono hE.size)
  have hOW := own_below3 hown hbW
  have hTW := hgW.tm hT
  have hbs : base ≤ (V.drew).heap.size := Nat.le_trans hbase hbW.size
  have i0 := cell_of_row V w.heap.size 0 _ _ _ hbx
  have i1 := cell_of_row V w.heap.size 1 _ _ _ hbx
  have i2 := cell_of_row V w.heap.size 2 _ _ _ hbx
  have i3 := cell_of_row V w.heap.size 3 _ _ _ hbx
  have hlv : w.heap.size < V.heap.size := by omega
  have hob : Out V.drew v w.heap.size := ⟨hlv, fun e => by have := own_lt3 hown _ e; omega⟩
  obtain ⟨kb, ko, rfl, hrow⟩ := hTW.row.resolve_left (fun e => by cases e)
  obtain ⟨Aa, ca, hha, hva⟩ := node_tmv (hrow.get 0 (by show _ < 2; decide))
  replace hva : TmV V.drew (Out V.drew v) a Aa ca := hva
  have ac0 : V.cell? ⟨kb, ko, none⟩ = some (.int .i64 a.kind) := hha.kind
  have ac1 : V.cell? ⟨kb, ko + 1, none⟩ = some (.string a.name) := hha.name
  have ac2 : V.cell? ⟨kb, ko + 2, none⟩ = some (.int .i64 a.num) := hha.num
  have ac3 : V.cell? ⟨kb, ko + 3, none⟩ = some (.slice Aa a.kids.length ca) := hha.kids
  have hkba : kb < V.heap.size := hha.at_.1
  have hokb : Out V.drew v kb := hha.at_
  clear hha
  obtain ⟨Ab, cb, hhb, hvb⟩ := node_tmv (hrow.get 1 (by show _ < 2; decide))
  replace hvb : TmV V.drew (Out V.drew v) b Ab cb := hvb
  have bc0 : V.cell? ⟨kb, ko + 4, none⟩ = some (.int .i64 b.kind) := hhb.kind
  have bc1 : V.cell? ⟨kb, ko + 4 + 1, none⟩ = some (.string b.name) := hhb.name
  have bc2 : V.cell? ⟨kb, ko + 4 + 2, none⟩ = some (.int .i64 b.num) := hhb.num
  have bc3 : V.cell? ⟨kb, ko + 4 + 3, none⟩ = some (.slice Ab b.kids.length cb) := hhb.kids
  clear hhb
  clear hrow
  have hlen : ts.length + (([.inr (a, Aa, ca), .inl (mTok s.data.toList), .inr (b, Ab, cb)] : List Pt).flatMap partT).length ≤ 1099511627776 := by rw [toks_12] at hl; simpa [partT] using hl
  have hok : ∀ p ∈ ([.inr (a, Aa, ca), .inl (mTok s.data.toList), .inr (b, Ab, cb)] : List Pt), partOk p := by
    intro p hp
    simp only [List.mem_cons, List.not_mem_nil, or_false] at hp
    rcases hp with rfl | rfl | rfl
    · exact trivial
    · exact .inl ⟨.inr (.inr rfl), rfl⟩
    · exact trivial
  have hkk : ∀ u, .inr u ∈ ([.inr (a, Aa, ca), .inl (mTok s.data.toList), .inr (b, Ab, cb)] : List Pt) → KidStmt u.1 := by
    intro u hu
    simp at hu
    rcases hu with rfl | rfl
    · exact Ha
    · exact Hb
  have htt : ∀ u, .inr u ∈ ([.inr (a, Aa, ca), .inl (mTok s.data.toList), .inr (b, Ab, cb)] : List Pt) → TmV V.drew (Out V.drew v) u.1 u.2.1 u.2.2 := by
    intro u hu
    simp at hu
    rcases hu with rfl | rfl
    · exact hva
    · exact hvb
  have kl0 := lay_new [.inr (a, Aa, ca), .inl (mTok s.data.toList), .inr (b, Ab, cb)] hok hkk base v ts 3 V.drew 98 h8 hbs hEW hOW htt hlen (by show 3 ≤ _; decide)
  have kl : Calls Tryz.prog 31 #[v, .slice (some ⟨V.heap.size, 0, none⟩) 3 3] (V.drew.alloc (.cells #[.iface 78 (.agg #[.int .i64 a.kind, .string a.name, .int .i64 a.num, .slice Aa a.kids.length ca]), .iface 77 (.string s), .iface 78 (.agg #[.int .i64 b.kind, .string b.name, .int .i64 b.num, .slice Ab b.kids.length cb])] 98)) fun e w' => ∃ v', e = .returned v' ∧ LayPost base ts (([.inr (a, Aa, ca), .inl (mTok s.data.toList), .inr (b, Ab, cb)] : List Pt).flatMap partT) V.drew v v' w' := kl0
  replace kl := Lib.hid kl
  have hend : Hid (∀ v' w', LayPost base ts (([.inr (a, Aa, ca), .inl (mTok s.data.toList), .inr (b, Ab, cb)] : List Pt).flatMap partT) V.drew v v' w' → LayPost base ts (toksT (.node 12 s 0 [a, b])) w v v' w') := fun v' w' h => by
    have e : toksT (.node 12 s 0 [a, b]) = ([.inr (a, Aa, ca), .inl (mTok s.data.toList), .inr (b, Ab, cb)] : List Pt).flatMap partT := by rw [toks_12]; first | rfl | simp [partT]
    rw [e]; exact h.of hgW
  have hS0 : (V).cell? ⟨w.heap.size, 1, none⟩ = some (.string s) ∧ (V).cell? ⟨kb, ko, none⟩ = some (.int .i64 a.kind) ∧ (V).cell? ⟨kb, ko + 1, none⟩ = some (.string a.name) ∧ (V).cell? ⟨kb, ko + 2, none⟩ = some (.int .i64 a.num) ∧ (V).cell? ⟨kb, ko + 3, none⟩ = some (.slice Aa a.kids.length ca) ∧ (V).cell? ⟨kb, ko + 4, none⟩ = some (.int .i64 b.kind) ∧ (V).cell? ⟨kb, ko + 4 + 1, none⟩ = some (.string b.name) ∧ (V).cell? ⟨kb, ko + 4 + 2, none⟩ = some (.int .i64 b.num) ∧ (V).cell? ⟨kb, ko + 4 + 3, none⟩ = some (.slice Ab b.kids.length cb) := ⟨i1, ac0, ac1, ac2, ac3, bc0, bc1, bc2, bc3⟩
  have hSa : Hid (((V.alloc (.cells #[.iface 78 (.agg #[.int .i64 a.kind, .string a.name, .int .i64 a.num, .slice Aa a.kids.length ca]), .iface 77 (.string s), .iface 78 (.agg #[.int .i64 b.kind, .string b.name, .int .i64 b.num, .slice Ab b.kids.length cb])] 98)).drew).cell? ⟨w.heap.size, 1, none⟩ = some (.string s) ∧ ((V.alloc (.cells #[.iface 78 (.agg #[.int .i64 a.kind, .string a.name, .int .i64 a.num, .slice Aa a.kids.length ca]), .iface 77 (.string s), .iface 78 (.agg #[.int .i64 b.kind, .string b.name, .int .i64 b.num, .slice Ab b.kids.length cb])] 98)).drew).cell? ⟨kb, ko, none⟩ = some (.int .i64 a.kind) ∧ ((V.alloc (.cells #[.iface 78 (.agg #[.int .i64 a.kind, .string a.name, .int .i64 a.num, .slice Aa a.kids.length ca]), .iface 77 (.string s), .iface 78 (.agg #[.int .i64 b.kind, .string b.name, .int .i64 b.num, .slice Ab b.kids.length cb])] 98)).drew).cell? ⟨kb, ko + 1, none⟩ = some (.string a.name) ∧ ((V.alloc (.cells #[.iface 78 (.agg #[.int .i64 a.kind, .string a.name, .int .i64 a.num, .slice Aa a.kids.length ca]), .iface 77 (.string s), .iface 78 (.agg #[.int .i64 b.kind, .string b.name, .int .i64 b.num, .slice Ab b.kids.length cb])] 98)).drew).cell? ⟨kb, ko + 2, none⟩ = some (.int .i64 a.num) ∧ ((V.alloc (.cells #[.iface 78 (.agg #[.int .i64 a.kind, .string a.name, .int .i64 a.num, .slice Aa a.kids.length ca]), .iface 77 (.string s), .iface 78 (.agg #[.int .i64 b.kind, .string b.name, .int .i64 b.num, .slice Ab b.kids.length cb])] 98)).drew).cell? ⟨kb, ko + 3, none⟩ = some (.slice Aa a.kids.length ca) ∧ ((V.alloc (.cells #[.iface 78 (.agg #[.int .i64 a.kind, .string a.name, .int .i64 a.num, .slice Aa a.kids.length ca]), .iface 77 (.string s), .iface 78 (.agg #[.int .i64 b.kind, .string b.name, .int .i64 b.num, .slice Ab b.kids.length cb])] 98)).drew).cell? ⟨kb, ko + 4, none⟩ = some (.int .i64 b.kind) ∧ ((V.alloc (.cells #[.iface 78 (.agg #[.int .i64 a.kind, .string a.name, .int .i64 a.num, .slice Aa a.kids.length ca]), .iface 77 (.string s), .iface 78 (.agg #[.int .i64 b.kind, .string b.name, .int .i64 b.num, .slice Ab b.kids.length cb])] 98)).drew).cell? ⟨kb, ko + 4 + 1, none⟩ = some (.string b.name) ∧ ((V.alloc (.cells #[.iface 78 (.agg #[.int .i64 a.kind, .string a.name, .int .i64 a.num, .slice Aa a.kids.length ca]), .iface 77 (.string s), .iface 78 (.agg #[.int .i64 b.kind, .string b.name, .int .i64 b.num, .slice Ab b.kids.length cb])] 98)).drew).cell? ⟨kb, ko + 4 + 2, none⟩ = some (.int .i64 b.num) ∧ ((V.alloc (.cells #[.iface 78 (.agg #[.int .i64 a.kind, .string a.name, .int .i64 a.num, .slice Aa a.kids.length ca]), .iface 77 (.string s), .iface 78 (.agg #[.int .i64 b.kind, .string b.name, .int .i64 b.num, .slice Ab b.kids.length cb])] 98)).drew).cell? ⟨kb, ko + 4 + 3, none⟩ = some (.slice Ab b.kids.length cb)) := ⟨((later_alloc V (.cells #[.iface 78 (.agg #[.int .i64 a.kind, .string a.name, .int .i64 a.num, .slice Aa a.kids.length ca]), .iface 77 (.string s), .iface 78 (.agg #[.int .i64 b.kind, .string b.name, .int .i64 b.num, .slice Ab b.kids.length cb])] 98)).cell (p := ⟨w.heap.size, 1, none⟩) hlv).trans i1, ((later_alloc V (.cells #[.iface 78 (.agg #[.int .i64 a.kind, .string a.name, .int .i64 a.num, .slice Aa a.kids.length ca]), .iface 77 (.string s), .iface 78 (.agg #[.int .i64 b.kind, .string b.name, .int .i64 b.num, .slice Ab b.kids.length cb])] 98)).cell (p := ⟨kb, ko, none⟩) hkba).trans ac0, ((later_alloc V (.cells #[.iface 78 (.agg #[.int .i64 a.kind, .string a.name, .int .i64 a.num, .slice Aa a.kids.length ca]), .iface 77 (.string s), .iface 78 (.agg #[.int .i64 b.kind, .string b.name, .int .i64 b.num, .slice Ab b.kids.length cb])] 98)).cell (p := ⟨kb, ko + 1, none⟩) hkba).trans ac1, ((later_alloc V (.cells #[.iface 78 (.agg #[.int .i64 a.kind, .string a.name, .int .i64 a.num, .slice Aa a.kids.length ca]), .iface 77 (.string s), .iface 78 (.agg #[.int .i64 b.kind, .string b.name, .int .i64 b.num, .slice Ab b.kids.length cb])] 98)).cell (p := ⟨kb, ko + 2, none⟩) hkba).trans ac2, ((later_alloc V (.cells #[.iface 78 (.agg #[.int .i64 a.kind, .string a.name, .int .i64 a.num, .slice Aa a.kids.length ca]), .iface 77 (.string s), .iface 78 (.agg #[.int .i64 b.kind, .string b.name, .int .i64 b.num, .slice Ab b.kids.length cb])] 98)).cell (p := ⟨kb, ko + 3, none⟩) hkba).trans ac3, ((later_alloc V (.cells #[.iface 78 (.agg #[.int .i64 a.kind, .string a.name, .int .i64 a.num, .slice Aa a.kids.length ca]), .iface 77 (.string s), .iface 78 (.agg #[.int .i64 b.kind, .string b.name, .int .i64 b.num, .slice Ab b.kids.length cb])] 98)).cell (p := ⟨kb, ko + 4, none⟩) hkba).trans bc0, ((later_alloc V (.cells #[.iface 78 (.agg #[.int .i64 a.kind, .string a.name, .int .i64 a.num, .slice Aa a.kids.length ca]), .iface 77 (.string s), .iface 78 (.agg #[.int .i64 b.kind, .string b.name, .int .i64 b.num, .slice Ab b.kids.length cb])] 98)).cell (p := ⟨kb, ko + 4 + 1, none⟩) hkba).trans bc1, ((later_alloc V (.cells #[.iface 78 (.agg #[.int .i64 a.kind, .string a.name, .int .i64 a.num, .slice Aa a.kids.length ca]), .iface 77 (.string s), .iface 78 (.agg #[.int .i64 b.kind, .string b.name, .int .i64 b.num, .slice Ab b.kids.length cb])] 98)).cell (p := ⟨kb, ko + 4 + 2, none⟩) hkba).trans bc2, ((later_alloc V (.cells #[.iface 78 (.agg #[.int .i64 a.kind, .string a.name, .int .i64 a.num, .slice Aa a.kids.length ca]), .iface 77 (.string s), .iface 78 (.agg #[.int .i64 b.kind, .string b.name, .int .i64 b.num, .slice Ab b.kids.length cb])] 98)).cell (p := ⟨kb, ko + 4 + 3, none⟩) hkba).trans bc3⟩
  have hSk : Hid (∀ v1 w1, LayPost base ts (([.inr (a, Aa, ca), .inl (mTok s.data.toList), .inr (b, Ab, cb)] : List Pt).flatMap partT) V.drew v v1 w1 → (w1).cell? ⟨w.heap.size, 1, none⟩ = some (.string s) ∧ (w1).cell? ⟨kb, ko, none⟩ = some (.int .i64 a.kind) ∧ (w1).cell? ⟨kb, ko + 1, none⟩ = some (.string a.name) ∧ (w1).cell? ⟨kb, ko + 2, none⟩ = some (.int .i64 a.num) ∧ (w1).cell? ⟨kb, ko + 3, none⟩ = some (.slice Aa a.kids.length ca) ∧ (w1).cell? ⟨kb, ko + 4, none⟩ = some (.int .i64 b.kind) ∧ (w1).cell? ⟨kb, ko + 4 + 1, none⟩ = some (.string b.name) ∧ (w1).cell? ⟨kb, ko + 4 + 2, none⟩ = some (.int .i64 b.num) ∧ (w1).cell? ⟨kb, ko + 4 + 3, none⟩ = some (.slice Ab b.kids.length cb)) := fun v1 w1 h => ⟨(h.2.cell (b := w.heap.size) (o := 1) hob).trans i1, (h.2.cell (b := kb) (o := ko) hokb).trans ac0, (h.2.cell (b := kb) (o := ko + 1) hokb).trans ac1, (h.2.cell (b := kb) (o := ko + 2) hokb).trans ac2, (h.2.cell (b := kb) (o := ko + 3) hokb).trans ac3, (h.2.cell (b := kb) (o := ko + 4) hokb).trans bc0, (h.2.cell (b := kb) (o := ko + 4 + 1) hokb).trans bc1, (h.2.cell (b := kb) (o := ko + 4 + 2) hokb).trans bc2, (h.2.cell (b := kb) (o := ko + 4 + 3) hokb).trans bc3⟩
  clear kl0 hbV hbW hgW hEW hOW hTW hT hown hE hok hkk htt hlen hl hva hvb
  replace hbx := Lib.hid hbx
  replace hV := Lib.hid hV
  replace hVs := Lib.hid hVs
  go_enter Tryz.func17, Tryz.ntmps17
  go_wp2_with fail
  try rw [hV.out]
  go_region_held3 (fun w' => (w').cell? ⟨w.heap.size, 1, none⟩ = some (.string s) ∧ (w').cell? ⟨kb, ko, none⟩ = some (.int .i64 a.kind) ∧ (w').cell? ⟨kb, ko + 1, none⟩ = some (.string a.name) ∧ (w').cell? ⟨kb, ko + 2, none⟩ = some (.int .i64 a.num) ∧ (w').cell? ⟨kb, ko + 3, none⟩ = some (.slice Aa a.kids.length ca) ∧ (w').cell? ⟨kb, ko + 4, none⟩ = some (.int .i64 b.kind) ∧ (w').cell? ⟨kb, ko + 4 + 1, none⟩ = some (.string b.name) ∧ (w').cell? ⟨kb, ko + 4 + 2, none⟩ = some (.int .i64 b.num) ∧ (w').cell? ⟨kb, ko + 4 + 3, none⟩ = some (.slice Ab b.kids.length cb)) (first | exact hS0 | exact hSa.out | exact hS1.out) (first | (go_at_call 31; refine kl.out.mono ?_; rintro e w1 ⟨v1, rfl, hp⟩; have hS1 := Lib.hid (hSk.out _ _ hp); replace hp := Lib.hid (hend.out _ _ hp); clear kl))
  all_goals go_wp2
  all_goals go_ret
  all_goals exact ⟨_, rfl, hp.out⟩

set_option maxRecDepth 100000 in
set_option maxHeartbeats 4000000 in
theorem laid_13  (a : Go.Tm.T) (b : Go.Tm.T) (Ha : KidStmt a) (Hb : KidStmt b) : LaidStmt (.node 13 ⟨#[]⟩ 0 [a, b]) := fun base v ts A c w h8 hbase hE hown hT hl => by
  have hbV : Below w.heap.size w (w.alloc (.cells #[.int .i64 13, .string ⟨#[]⟩, .int .i64 0, .slice A 2 c] 24)) := later_alloc _ _
  have hbx : (w.alloc (.cells #[.int .i64 13, .string ⟨#[]⟩, .int .i64 0, .slice A 2 c] 24)).heap[w.heap.size]? = some (.cells #[.int .i64 13, .string ⟨#[]⟩, .int .i64 0, .slice A 2 c] 24 (0, 0)) := World.alloc_heap_new _ _
  have hVs : (w.alloc (.cells #[.int .i64 13, .string ⟨#[]⟩, .int .i64 0, .slice A 2 c] 24)).heap.size = w.heap.size + 1 := by simp
  show Calls Tryz.prog 17 #[v, .agg #[.int .i64 13, .string ⟨#[]⟩, .int .i64 0, .slice A 2 c]] w _
  obtain ⟨V, hV⟩ : ∃ V, w.alloc (.cells #[.int .i64 13, .string ⟨#[]⟩, .int .i64 0, .slice A 2 c] 24) = V := ⟨_, rfl⟩
  rw [hV] at hbV hbx hVs
  have hbW : Below w.heap.size w V.drew := hbV.drew
  have hgW : Gr w V.drew v v := Gr.of_below hbW
  have hEW := hE.below (Nat.le_refl _) (hbW.mono hE.size)
  have hOW := own_below3 hown hbW
  have hTW := hgW.tm hT
  have hbs : base ≤ (V.drew).heap.size := Nat.le_trans hbase hbW.size
  have i0 := cell_of_row V w.heap.size 0 _ _ _ hbx
  have i1 := cell_of_row V w.heap.size 1 _ _ _ hbx
  have i2 := cell_of_row V w.heap.size 2 _ _ _ hbx
  have i3 := cell_of_row V w.heap.size 3 _ _ _ hbx
  have hlv : w.heap.size < V.heap.size := by omega
  have hob : Out V.drew v w.heap.size := ⟨hlv, fun e => by have := own_lt3 hown _ e; omega⟩
  obtain ⟨kb, ko, rfl, hrow⟩ := hTW.row.resolve_left (fun e => by cases e)
  obtain ⟨Aa, ca, hha, hva⟩ := node_tmv (hrow.get 0 (by show _ < 2; decide))
  replace hva : TmV V.drew (Out V.drew v) a Aa ca := hva
  have ac0 : V.cell? ⟨kb, ko, none⟩ = some (.int .i64 a.kind) := hha.kind
  have ac1 : V.cell? ⟨kb, ko + 1, none⟩ = some (.string a.name) := hha.name
  have ac2 : V.cell? ⟨kb, ko + 2, none⟩ = some (.int .i64 a.num) := hha.num
  have ac3 : V.cell? ⟨kb, ko + 3, none⟩ = some (.slice Aa a.kids.length ca) := hha.kids
  have hkba : kb < V.heap.size := hha.at_.1
  have hokb : Out V.drew v kb := hha.at_
  clear hha
  obtain ⟨Ab, cb, hhb, hvb⟩ := node_tmv (hrow.get 1 (by show _ < 2; decide))
  replace hvb : TmV V.drew (Out V.drew v) b Ab cb := hvb
  have bc0 : V.cell? ⟨kb, ko + 4, none⟩ = some (.int .i64 b.kind) := hhb.kind
  have bc1 : V.cell? ⟨kb, ko + 4 + 1, none⟩ = some (.string b.name) := hhb.name
  have bc2 : V.cell? ⟨kb, ko + 4 + 2, none⟩ = some (.int .i64 b.num) := hhb.num
  have bc3 : V.cell? ⟨kb, ko + 4 + 3, none⟩ = some (.slice Ab b.kids.length cb) := hhb.kids
  clear hhb
  clear hrow
  have hlen : ts.length + (([.inr (a, Aa, ca), .inl (mTok [59]), .inr (b, Ab, cb)] : List Pt).flatMap partT).length ≤ 1099511627776 := by rw [toks_13] at hl; simpa [partT] using hl
  have hok : ∀ p ∈ ([.inr (a, Aa, ca), .inl (mTok [59]), .inr (b, Ab, cb)] : List Pt), partOk p := by
    intro p hp
    simp only [List.mem_cons, List.not_mem_nil, or_false] at hp
    rcases hp with rfl | rfl | rfl
    · exact trivial
    · exact .inl ⟨.inr (.inr rfl), rfl⟩
    · exact trivial
  have hkk : ∀ u, .inr u ∈ ([.inr (a, Aa, ca), .inl (mTok [59]), .inr (b, Ab, cb)] : List Pt) → KidStmt u.1 := by
    intro u hu
    simp at hu
    rcases hu with rfl | rfl
    · exact Ha
    · exact Hb
  have htt : ∀ u, .inr u ∈ ([.inr (a, Aa, ca), .inl (mTok [59]), .inr (b, Ab, cb)] : List Pt) → TmV V.drew (Out V.drew v) u.1 u.2.1 u.2.2 := by
    intro u hu
    simp at hu
    rcases hu with rfl | rfl
    · exact hva
    · exact hvb
  have kl0 := lay_new [.inr (a, Aa, ca), .inl (mTok [59]), .inr (b, Ab, cb)] hok hkk base v ts 3 V.drew 98 h8 hbs hEW hOW htt hlen (by show 3 ≤ _; decide)
  have kl : Calls Tryz.prog 31 #[v, .slice (some ⟨V.heap.size, 0, none⟩) 3 3] (V.drew.alloc (.cells #[.iface 78 (.agg #[.int .i64 a.kind, .string a.name, .int .i64 a.num, .slice Aa a.kids.length ca]), .iface 77 (.string ⟨#[59]⟩), .iface 78 (.agg #[.int .i64 b.kind, .string b.name, .int .i64 b.num, .slice Ab b.kids.length cb])] 98)) fun e w' => ∃ v', e = .returned v' ∧ LayPost base ts (([.inr (a, Aa, ca), .inl (mTok [59]), .inr (b, Ab, cb)] : List Pt).flatMap partT) V.drew v v' w' := kl0
  replace kl := Lib.hid kl
  have hend : Hid (∀ v' w', LayPost base ts (([.inr (a, Aa, ca), .inl (mTok [59]), .inr (b, Ab, cb)] : List Pt).flatMap partT) V.drew v v' w' → LayPost base ts (toksT (.node 13 ⟨#[]⟩ 0 [a, b])) w v v' w') := fun v' w' h => by
    have e : toksT (.node 13 ⟨#[]⟩ 0 [a, b]) = ([.inr (a, Aa, ca), .inl (mTok [59]), .inr (b, Ab, cb)] : List Pt).flatMap partT := by rw [toks_13]; first | rfl | simp [partT]
    rw [e]; exact h.of hgW
  have hS0 : (V).cell? ⟨kb, ko, none⟩ = some (.int .i64 a.kind) ∧ (V).cell? ⟨kb, ko + 1, none⟩ = some (.string a.name) ∧ (V).cell? ⟨kb, ko + 2, none⟩ = some (.int .i64 a.num) ∧ (V).cell? ⟨kb, ko + 3, none⟩ = some (.slice Aa a.kids.length ca) ∧ (V).cell? ⟨kb, ko + 4, none⟩ = some (.int .i64 b.kind) ∧ (V).cell? ⟨kb, ko + 4 + 1, none⟩ = some (.string b.name) ∧ (V).cell? ⟨kb, ko + 4 + 2, none⟩ = some (.int .i64 b.num) ∧ (V).cell? ⟨kb, ko + 4 + 3, none⟩ = some (.slice Ab b.kids.length cb) := ⟨ac0, ac1, ac2, ac3, bc0, bc1, bc2, bc3⟩
  have hSa : Hid (((V.alloc (.cells #[.iface 78 (.agg #[.int .i64 a.kind, .string a.name, .int .i64 a.num, .slice Aa a.kids.length ca]), .iface 77 (.string ⟨#[59]⟩), .iface 78 (.agg #[.int .i64 b.kind, .string b.name, .int .i64 b.num, .slice Ab b.kids.length cb])] 98)).drew).cell? ⟨kb, ko, none⟩ = some (.int .i64 a.kind) ∧ ((V.alloc (.cells #[.iface 78 (.agg #[.int .i64 a.kind, .string a.name, .int .i64 a.num, .slice Aa a.kids.length ca]), .iface 77 (.string ⟨#[59]⟩), .iface 78 (.agg #[.int .i64 b.kind, .string b.name, .int .i64 b.num, .slice Ab b.kids.length cb])] 98)).drew).cell? ⟨kb, ko + 1, none⟩ = some (.string a.name) ∧ ((V.alloc (.cells #[.iface 78 (.agg #[.int .i64 a.kind, .string a.name, .int .i64 a.num, .slice Aa a.kids.length ca]), .iface 77 (.string ⟨#[59]⟩), .iface 78 (.agg #[.int .i64 b.kind, .string b.name, .int .i64 b.num, .slice Ab b.kids.length cb])] 98)).drew).cell? ⟨kb, ko + 2, none⟩ = some (.int .i64 a.num) ∧ ((V.alloc (.cells #[.iface 78 (.agg #[.int .i64 a.kind, .string a.name, .int .i64 a.num, .slice Aa a.kids.length ca]), .iface 77 (.string ⟨#[59]⟩), .iface 78 (.agg #[.int .i64 b.kind, .string b.name, .int .i64 b.num, .slice Ab b.kids.length cb])] 98)).drew).cell? ⟨kb, ko + 3, none⟩ = some (.slice Aa a.kids.length ca) ∧ ((V.alloc (.cells #[.iface 78 (.agg #[.int .i64 a.kind, .string a.name, .int .i64 a.num, .slice Aa a.kids.length ca]), .iface 77 (.string ⟨#[59]⟩), .iface 78 (.agg #[.int .i64 b.kind, .string b.name, .int .i64 b.num, .slice Ab b.kids.length cb])] 98)).drew).cell? ⟨kb, ko + 4, none⟩ = some (.int .i64 b.kind) ∧ ((V.alloc (.cells #[.iface 78 (.agg #[.int .i64 a.kind, .string a.name, .int .i64 a.num, .slice Aa a.kids.length ca]), .iface 77 (.string ⟨#[59]⟩), .iface 78 (.agg #[.int .i64 b.kind, .string b.name, .int .i64 b.num, .slice Ab b.kids.length cb])] 98)).drew).cell? ⟨kb, ko + 4 + 1, none⟩ = some (.string b.name) ∧ ((V.alloc (.cells #[.iface 78 (.agg #[.int .i64 a.kind, .string a.name, .int .i64 a.num, .slice Aa a.kids.length ca]), .iface 77 (.string ⟨#[59]⟩), .iface 78 (.agg #[.int .i64 b.kind, .string b.name, .int .i64 b.num, .slice Ab b.kids.length cb])] 98)).drew).cell? ⟨kb, ko + 4 + 2, none⟩ = some (.int .i64 b.num) ∧ ((V.alloc (.cells #[.iface 78 (.agg #[.int .i64 a.kind, .string a.name, .int .i64 a.num, .slice Aa a.kids.length ca]), .iface 77 (.string ⟨#[59]⟩), .iface 78 (.agg #[.int .i64 b.kind, .string b.name, .int .i64 b.num, .slice Ab b.kids.length cb])] 98)).drew).cell? ⟨kb, ko + 4 + 3, none⟩ = some (.slice Ab b.kids.length cb)) := ⟨((later_alloc V (.cells #[.iface 78 (.agg #[.int .i64 a.kind, .string a.name, .int .i64 a.num, .slice Aa a.kids.length ca]), .iface 77 (.string ⟨#[59]⟩), .iface 78 (.agg #[.int .i64 b.kind, .string b.name, .int .i64 b.num, .slice Ab b.kids.length cb])] 98)).cell (p := ⟨kb, ko, none⟩) hkba).trans ac0, ((later_alloc V (.cells #[.iface 78 (.agg #[.int .i64 a.kind, .string a.name, .int .i64 a.num, .slice Aa a.kids.length ca]), .iface 77 (.string ⟨#[59]⟩), .iface 78 (.agg #[.int .i64 b.kind, .string b.name, .int .i64 b.num, .slice Ab b.kids.length cb])] 98)).cell (p := ⟨kb, ko + 1, none⟩) hkba).trans ac1, ((later_alloc V (.cells #[.iface 78 (.agg #[.int .i64 a.kind, .string a.name, .int .i64 a.num, .slice Aa a.kids.length ca]), .iface 77 (.string ⟨#[59]⟩), .iface 78 (.agg #[.int .i64 b.kind, .string b.name, .int .i64 b.num, .slice Ab b.kids.length cb])] 98)).cell (p := ⟨kb, ko + 2, none⟩) hkba).trans ac2, ((later_alloc V (.cells #[.iface 78 (.agg #[.int .i64 a.kind, .string a.name, .int .i64 a.num, .slice Aa a.kids.length ca]), .iface 77 (.string ⟨#[59]⟩), .iface 78 (.agg #[.int .i64 b.kind, .string b.name, .int .i64 b.num, .slice Ab b.kids.length cb])] 98)).cell (p := ⟨kb, ko + 3, none⟩) hkba).trans ac3, ((later_alloc V (.cells #[.iface 78 (.agg #[.int .i64 a.kind, .string a.name, .int .i64 a.num, .slice Aa a.kids.length ca]), .iface 77 (.string ⟨#[59]⟩), .iface 78 (.agg #[.int .i64 b.kind, .string b.name, .int .i64 b.num, .slice Ab b.kids.length cb])] 98)).cell (p := ⟨kb, ko + 4, none⟩) hkba).trans bc0, ((later_alloc V (.cells #[.iface 78 (.agg #[.int .i64 a.kind, .string a.name, .int .i64 a.num, .slice Aa a.kids.length ca]), .iface 77 (.string ⟨#[59]⟩), .iface 78 (.agg #[.int .i64 b.kind, .string b.name, .int .i64 b.num, .slice Ab b.kids.length cb])] 98)).cell (p := ⟨kb, ko + 4 + 1, none⟩) hkba).trans bc1, ((later_alloc V (.cells #[.iface 78 (.agg #[.int .i64 a.kind, .string a.name, .int .i64 a.num, .slice Aa a.kids.length ca]), .iface 77 (.string ⟨#[59]⟩), .iface 78 (.agg #[.int .i64 b.kind, .string b.name, .int .i64 b.num, .slice Ab b.kids.length cb])] 98)).cell (p := ⟨kb, ko + 4 + 2, none⟩) hkba).trans bc2, ((later_alloc V (.cells #[.iface 78 (.agg #[.int .i64 a.kind, .string a.name, .int .i64 a.num, .slice Aa a.kids.length ca]), .iface 77 (.string ⟨#[59]⟩), .iface 78 (.agg #[.int .i64 b.kind, .string b.name, .int .i64 b.num, .slice Ab b.kids.length cb])] 98)).cell (p := ⟨kb, ko + 4 + 3, none⟩) hkba).trans bc3⟩
  have hSk : Hid (∀ v1 w1, LayPost base ts (([.inr (a, Aa, ca), .inl (mTok [59]), .inr (b, Ab, cb)] : List Pt).flatMap partT) V.drew v v1 w1 → (w1).cell? ⟨kb, ko, none⟩ = some (.int .i64 a.kind) ∧ (w1).cell? ⟨kb, ko + 1, none⟩ = some (.string a.name) ∧ (w1).cell? ⟨kb, ko + 2, none⟩ = some (.int .i64 a.num) ∧ (w1).cell? ⟨kb, ko + 3, none⟩ = some (.slice Aa a.kids.length ca) ∧ (w1).cell? ⟨kb, ko + 4, none⟩ = some (.int .i64 b.kind) ∧ (w1).cell? ⟨kb, ko + 4 + 1, none⟩ = some (.string b.name) ∧ (w1).cell? ⟨kb, ko + 4 + 2, none⟩ = some (.int .i64 b.num) ∧ (w1).cell? ⟨kb, ko + 4 + 3, none⟩ = some (.slice Ab b.kids.length cb)) := fun v1 w1 h => ⟨(h.2.cell (b := kb) (o := ko) hokb).trans ac0, (h.2.cell (b := kb) (o := ko + 1) hokb).trans ac1, (h.2.cell (b := kb) (o := ko + 2) hokb).trans ac2, (h.2.cell (b := kb) (o := ko + 3) hokb).trans ac3, (h.2.cell (b := kb) (o := ko + 4) hokb).trans bc0, (h.2.cell (b := kb) (o := ko + 4 + 1) hokb).trans bc1, (h.2.cell (b := kb) (o := ko + 4 + 2) hokb).trans bc2, (h.2.cell (b := kb) (o := ko + 4 + 3) hokb).trans bc3⟩
  clear kl0 hbV hbW hgW hEW hOW hTW hT hown hE hok hkk htt hlen hl hva hvb
  replace hbx := Lib.hid hbx
  replace hV := Lib.hid hV
  replace hVs := Lib.hid hVs
  go_enter Tryz.func17, Tryz.ntmps17
  go_wp2_with fail
  try rw [hV.out]
  go_region_held3 (fun w' => (w').cell? ⟨kb, ko, none⟩ = some (.int .i64 a.kind) ∧ (w').cell? ⟨kb, ko + 1, none⟩ = some (.string a.name) ∧ (w').cell? ⟨kb, ko + 2, none⟩ = some (.int .i64 a.num) ∧ (w').cell? ⟨kb, ko + 3, none⟩ = some (.slice Aa a.kids.length ca) ∧ (w').cell? ⟨kb, ko + 4, none⟩ = some (.int .i64 b.kind) ∧ (w').cell? ⟨kb, ko + 4 + 1, none⟩ = some (.string b.name) ∧ (w').cell? ⟨kb, ko + 4 + 2, none⟩ = some (.int .i64 b.num) ∧ (w').cell? ⟨kb, ko + 4 + 3, none⟩ = some (.slice Ab b.kids.length cb)) (first | exact hS0 | exact hSa.out | exact hS1.out) (first | (go_at_call 31; refine kl.out.mono ?_; rintro e w1 ⟨v1, rfl, hp⟩; have hS1 := Lib.hid (hSk.out _ _ hp); replace hp := Lib.hid (hend.out _ _ hp); clear kl))
  all_goals go_wp2
  all_goals go_ret
  all_goals exact ⟨_, rfl, hp.out⟩

end Go.Proofs.YthmchdpinobbgaaGreatDoor
