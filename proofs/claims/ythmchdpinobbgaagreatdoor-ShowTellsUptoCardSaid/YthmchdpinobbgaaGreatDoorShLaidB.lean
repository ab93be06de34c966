/-
  laid: a term's tokens, a kind each. Condition: its kids are laid as they should be.
-/
import Derived.Test.YthmchdpinobbgaaGreatDoorShKid
import Derived.Deep.RegionHeld3
import Derived.Deep.DrawnRows
namespace Go.Proofs.YthmchdpinobbgaaGreatDoor
open Go.RowKit Go.Shelf Go.Tm Go.Lx Go.Maps
attribute [local go_sem] Oper.semAt_some

set_option maxRecDepth 100000 in
set_option maxHeartbeats 4000000 in
theorem laid_5 (s : ByteArray)  (a : Go.Tm.T) (b : Go.Tm.T) (Ha : KidStmt a) (Hb : KidStmt b) : LaidStmt (.node 5 s 0 [a, b]) := fun base v ts A c w h8 hbase hE hown hT hl => by
  have hbV : Below w.heap.size w (w.alloc (.cells #[.int .i64 5, .string s, .int .i64 0, .slice A 2 c] 24)) := later_alloc _ _
  have hbx : (w.alloc (.cells #[.int .i64 5, .string s, .int .i64 0, .slice A 2 c] 24)).heap[w.heap.size]? = some (.cells #[.int .i64 5, .string s, .int .i64 0, .slice A 2 c] 24 (0, 0)) := World.alloc_heap_new _ _
  have hVs : (w.alloc (.cells #[.int .i64 5, .string s, .int .i64 0, .slice A 2 c] 24)).heap.size = w.heap.size + 1 := by simp
  show Calls Tryz.prog 17 #[v, .agg #[.int .i64 5, .string s, .int .i64 0, .slice A 2 c]] w _
  obtain ⟨V, hV⟩ : ∃ V, w.alloc (.cells #[.int .i64 5, .string s, .int .i64 0, .slice A 2 c] 24) = V := ⟨_, rfl⟩
  rw [hV] at hbV hbx hVs
  have hbW : Below w.heap.size w V.drew := hbV.drew
  have hgW : Gr w V.drew v v := Gr.of_below hbW
  have hEW := hE.below (Nat.le_refl _) (hbW.mono hE.size)
  have hOW := own_below3 hown hbW
  have hTW := hgW.tm hT
  have hbs : base ≤ (V.drew).heap.size := Nat.le_trans hbase hbW.size
  have i0 := cell_of_row V w.heap.size 0 _ _ _ hbx
  have i1 := cell_of_row V w.heap.size 1 _ _ _ hbx
  have i2 := cell_of_row V w.heap.size 2 _ _ _ hbx
  have i3 := cell_of_row V w.heap.size 3 _ _ _ hbx
  have hlv : w.heap.size < V.heap.size := by omega
  have hob : Out V.drew v w.heap.size := ⟨hlv, fun e => by have := own_lt3 hown _ e; omega⟩
  obtain ⟨kb, ko, rfl, hrow⟩ := hTW.row.resolve_left (fun e => by cases e)
  obtain ⟨Aa, ca, hha, hva⟩ := node_tmv (hrow.get 0 (by show _ < 2; decide))
  replace hva : TmV V.drew (Out V.drew v) a Aa ca := hva
  have ac0 : V.cell? ⟨kb, ko, none⟩ = some (.int .i64 a.kind) := hha.kind
  have ac1 : V.cell? ⟨kb, ko + 1, none⟩ = some (.string a.name) := hha.name
  have ac2 : V.cell? ⟨kb, ko + 2, none⟩ = some (.int .i64 a.num) := hha.num
  have ac3 : V.cell? ⟨kb, ko + 3, none⟩ = some (.slice Aa a.kids.length ca) := hha.kids
  have hkba : kb < V.heap.size := hha.at_.1
  have hokb : Out V.drew v kb := hha.at_
  clear hha
  obtain ⟨Ab, cb, hhb, hvb⟩ := node_tmv (hrow.get 1 (by show _ < 2; decide))
  replace hvb : TmV V.drew (Out V.drew v) b Ab cb := hvb
  have bc0 : V.cell? ⟨kb, ko + 4, none⟩ = some (.int .i64 b.kind) := hhb.kind
  have bc1 : V.cell? ⟨kb, ko + 4 + 1, none⟩ = some (.string b.name) := hhb.name
  have bc2 : V.cell? ⟨kb, ko + 4 + 2, none⟩ = some (.int .i64 b.num) := hhb.num
  have bc3 : V.cell? ⟨kb, ko + 4 + 3, none⟩ = some (.slice Ab b.kids.length cb) := hhb.kids
  clear hhb
  clear hrow
  have hlen : ts.length + (([.inl (kTok [108, 101, 116]), .inl (nTok s.data.toList), .inl (mTok [61]), .inr (a, Aa, ca), .inl (kTok [105, 110]), .inr (b, Ab, cb)] : List Pt).flatMap partT).length ≤ 1099511627776 := by rw [toks_5] at hl; simpa [partT] using hl
  have hok : ∀ p ∈ ([.inl (kTok [108, 101, 116]), .inl (nTok s.data.toList), .inl (mTok [61]), .inr (a, Aa, ca), .inl (kTok [105, 110]), .inr (b, Ab, cb)] : List Pt), partOk p := by
    intro p hp
    simp only [List.mem_cons, List.not_mem_nil, or_false] at hp
    rcases hp with rfl | rfl | rfl | rfl | rfl | rfl
    · exact .inl ⟨.inr (.inl rfl), rfl⟩
    · exact .inl ⟨.inl rfl, rfl⟩
    · exact .inl ⟨.inr (.inr rfl), rfl⟩
    · exact trivial
    · exact .inl ⟨.inr (.inl rfl), rfl⟩
    · exact trivial
  have hkk : ∀ u, .inr u ∈ ([.inl (kTok [108, 101, 116]), .inl (nTok s.data.toList), .inl (mTok [61]), .inr (a, Aa, ca), .inl (kTok [105, 110]), .inr (b, Ab, cb)] : List Pt) → KidStmt u.1 := by
    intro u hu
    simp at hu
    rcases hu with rfl | rfl
    · exact Ha
    · exact Hb
  have htt : ∀ u, .inr u ∈ ([.inl (kTok [108, 101, 116]), .inl (nTok s.data.toList), .inl (mTok [61]), .inr (a, Aa, ca), .inl (kTok [105, 110]), .inr (b, Ab, cb)] : List Pt) → TmV V.drew (Out V.drew v) u.1 u.2.1 u.2.2 := by
    intro u hu
    simp at hu
    rcases hu with rfl | rfl
    · exact hva
    · exact hvb
  have kl0 := lay_new [.inl (kTok [108, 101, 116]), .inl (nTok s.data.toList), .inl (mTok [61]), .inr (a, Aa, ca), .inl (kTok [105, 110]), .inr (b, Ab, cb)] hok hkk base v ts 6 V.drew 98 h8 hbs hEW hOW htt hlen (by show 6 ≤ _; decide)
  have kl : Calls Tryz.prog 31 #[v, .slice (some ⟨V.heap.size, 0, none⟩) 6 6] (V.drew.alloc (.cells #[.iface 76 (.string ⟨#[108, 101, 116]⟩), .iface 75 (.string s), .iface 77 (.string ⟨#[61]⟩), .iface 78 (.agg #[.int .i64 a.kind, .string a.name, .int .i64 a.num, .slice Aa a.kids.length ca]), .iface 76 (.string ⟨#[105, 110]⟩), .iface 78 (.agg #[.int .i64 b.kind, .string b.name, .int .i64 b.num, .slice Ab b.kids.length cb])] 98)) fun e w' => ∃ v', e = .returned v' ∧ LayPost base ts (([.inl (kTok [108, 101, 116]), .inl (nTok s.data.toList), .inl (mTok [61]), .inr (a, Aa, ca), .inl (kTok [105, 110]), .inr (b, Ab, cb)] : List Pt).flatMap partT) V.drew v v' w' := kl0
  replace kl := Lib.hid kl
  have hend : Hid (∀ v' w', LayPost base ts (([.inl (kTok [108, 101, 116]), .inl (nTok s.data.toList), .inl (mTok [61]), .inr (a, Aa, ca), .inl (kTok [105, 110]), .inr (b, Ab, cb)] : List Pt).flatMap partT) V.drew v v' w' → LayPost base ts (toksT (.node 5 s 0 [a, b])) w v v' w') := fun v' w' h => by
    have e : toksT (.node 5 s 0 [a, b]) = ([.inl (kTok [108, 101, 116]), .inl (nTok s.data.toList), .inl (mTok [61]), .inr (a, Aa, ca), .inl (kTok [105, 110]), .inr (b, Ab, cb)] : List Pt).flatMap partT := by rw [toks_5]; first | rfl | simp [partT]
    rw [e]; exact h.of hgW
  have hS0 : (V).cell? ⟨w.heap.size, 1, none⟩ = some (.string s) ∧ (V).cell? ⟨kb, ko, none⟩ = some (.int .i64 a.kind) ∧ (V).cell? ⟨kb, ko + 1, none⟩ = some (.string a.name) ∧ (V).cell? ⟨kb, ko + 2, none⟩ = some (.int .i64 a.num) ∧ (V).cell? ⟨kb, ko + 3, none⟩ = some (.slice Aa a.kids.length ca) ∧ (V).cell? ⟨kb, ko + 4, none⟩ = some (.int .i64 b.kind) ∧ (V).cell? ⟨kb, ko + 4 + 1, none⟩ = some (.string b.name) ∧ (V).cell? ⟨kb, ko + 4 + 2, none⟩ = some (.int .i64 b.num) ∧ (V).cell? ⟨kb, ko + 4 + 3, none⟩ = some (.slice Ab b.kids.length cb) := ⟨i1, ac0, ac1, ac2, ac3, bc0, bc1, bc2, bc3⟩
  have hSa : Hid (((V.alloc (.cells #[.iface 76 (.string ⟨#[108, 101, 116]⟩), .iface 75 (.string s), .iface 77 (.string ⟨#[61]⟩), .iface 78 (.agg #[.int .i64 a.kind, .string a.name, .int .i64 a.num, .slice Aa a.kids.length ca]), .iface 76 (.string ⟨#[105, 110]⟩), .iface 78 (.agg #[.int .i64 b.kind, .string b.name, .int .i64 b.num, .slice Ab b.kids.length cb])] 98)).drew).cell? ⟨w.heap.size, 1, none⟩ = some (.string s) ∧ ((V.alloc (.cells #[.iface 76 (.string ⟨#[108, 101, 116]⟩), .iface 75 (.string s), .iface 77 (.string ⟨#[61]⟩), .iface 78 (.agg #[.int .i64 a.kind, .string a.name, .int .i64 a.num, .slice Aa a.kids.length ca]), .iface 76 (.string ⟨#[105, 110]⟩), .iface 78 (.agg #[.int .i64 b.kind, .string b.name, .int .i64 b.num, .slice Ab b.kids.length cb])] 98)).drew).cell? ⟨kb, ko, none⟩ = some (.int .i64 a.kind) ∧ ((V.alloc (.cells #[.iface 76 (.string ⟨#[108, 101, 116]⟩), .iface 75 (.string s), .iface 77 (.string ⟨#[61]⟩), .iface 78 (.agg #[.int .i64 a.kind, .string a.name, .int .i64 a.num, .slice Aa a.kids.length ca]), .iface 76 (.string ⟨#[105, 110]⟩), .iface 78 (.agg #[.int .i64 b.kind, .string b.name, .int .i64 b.num, .slice Ab b.kids.length cb])] 98)).drew).cell? ⟨kb, ko + 1, none⟩ = some (.string a.name) ∧ ((V.alloc (.cells #[.iface 76 (.string ⟨#[108, 101, 116]⟩), .iface 75 (.string s), .iface 77 (.string ⟨#[61]⟩), .iface 78 (.agg #[.int .i64 a.kind, .string a.name, .int .i64 a.num, .slice Aa a.kids.length ca]), .iface 76 (.string ⟨#[105, 110]⟩), .iface 78 (.agg #[.int .i64 b.kind, .string b.name, .int .i64 b.num, .slice Ab b.kids.length cb])] 98)).drew).cell? ⟨kb, ko + 2, none⟩ = some (.int .i64 a.num) ∧ ((V.alloc (.cells #[.iface 76 (.string ⟨#[108, 101, 116]⟩), .iface 75 (.string s), .iface 77 (.string ⟨#[61]⟩), .iface 78 (.agg #[.int .i64 a.kind, .string a.name, .int .i64 a.num, .slice Aa a.kids.length ca]), .iface 76 (.string ⟨#[105, 110]⟩), .iface 78 (.agg #[.int .i64 b.kind, .string b.name, .int .i64 b.num, .slice Ab b.kids.length cb])] 98)).drew).cell? ⟨kb, ko + 3, none⟩ = some (.slice Aa a.kids.length ca) ∧ ((V.alloc (.cells #[.iface 76 (.string ⟨#[108, 101, 116]⟩), .iface 75 (.string s), .iface 77 (.string ⟨#[61]⟩), .iface 78 (.agg #[.int .i64 a.kind, .string a.name, .int .i64 a.num, .slice Aa a.kids.length ca]), .iface 76 (.string ⟨#[105, 110]⟩), .iface 78 (.agg #[.int .i64 b.kind, .string b.name, .int .i64 b.num, .slice Ab b.kids.length cb])] 98)).drew).cell? ⟨kb, ko + 4, none⟩ = some (.int .i64 b.kind) ∧ ((V.alloc (.cells #[.iface 76 (.string ⟨#[108, 101, 116]⟩), .iface 75 (.string s), .iface 77 (.string ⟨#[61]⟩), .iface 78 (.agg #[.int .i64 a.kind, .string a.name, .int .i64 a.num, .slice Aa a.kids.length ca]), .iface 76 (.string ⟨#[105, 110]⟩), .iface 78 (.agg #[.int .i64 b.kind, .string b.name, .int .i64 b.num, .slice Ab b.kids.length cb])] 98)).drew).cell? ⟨kb, ko + 4 + 1, none⟩ = some (.string b.name) ∧ ((V.alloc (.cells #[.iface 76 (.string ⟨#[108, 101, 116]⟩), .iface 75 (.string s), .iface 77 (.string ⟨#[61]⟩), .iface 78 (.agg #[.int .i64 a.kind, .string a.name, .int .i64 a.num, .slice Aa a.kids.length ca]), .iface 76 (.string ⟨#[105, 110]⟩), .iface 78 (.agg #[.int .i64 b.kind, .string b.name, .int .i64 b.num, .slice Ab b.kids.length cb])] 98)).drew).cell? ⟨kb, ko + 4 + 2, none⟩ = some (.int .i64 b.num) ∧ ((V.alloc (.cells #[.iface 76 (.string ⟨#[108, 101, 116]⟩), .iface 75 (.string s), .iface 77 (.string ⟨#[61]⟩), .iface 78 (.agg #[.int .i64 a.kind, .string a.name, .int .i64 a.num, .slice Aa a.kids.length ca]), .iface 76 (.string ⟨#[105, 110]⟩), .iface 78 (.agg #[.int .i64 b.kind, .string b.name, .int .i64 b.num, .slice Ab b.kids.length cb])] 98)).drew).cell? ⟨kb, ko + 4 + 3, none⟩ = some (.slice Ab b.kids.length cb)) := ⟨((later_alloc V (.cells #[.iface 76 (.string ⟨#[108, 101, 116]⟩), .iface 75 (.string s), .iface 77 (.string ⟨#[61]⟩), .iface 78 (.agg #[.int .i64 a.kind, .string a.name, .int .i64 a.num, .slice Aa a.kids.length ca]), .iface 76 (.string ⟨#[105, 110]⟩), .iface 78 (.agg #[.int .i64 b.kind, .string b.name, .int .i64 b.num, .slice Ab b.kids.length cb])] 98)).cell (p := ⟨w.heap.size, 1, none⟩) hlv).trans i1, ((later_alloc V (.cells #[.iface 76 (.string ⟨#[108, 101, 116]⟩), .iface 75 (.string s), .iface 77 (.string ⟨#[61]⟩), .iface 78 (.agg #[.int .i64 a.kind, .string a.name, .int .i64 a.num, .slice Aa a.kids.length ca]), .iface 76 (.string ⟨#[105, 110]⟩), .iface 78 (.agg #[.int .i64 b.kind, .string b.name, .int .i64 b.num, .slice Ab b.kids.length cb])] 98)).cell (p := ⟨kb, ko, none⟩) hkba).trans ac0, ((later_alloc V (.cells #[.iface 76 (.string ⟨#[108, 101, 116]⟩), .iface 75 (.string s), .iface 77 (.string ⟨#[61]⟩), .iface 78 (.agg #[.int .i64 a.kind, .string a.name, .int .i64 a.num, .slice Aa a.kids.length ca]), .iface 76 (.string ⟨#[105, 110]⟩), .iface 78 (.agg #[.int .i64 b.kind, .string b.name, .int .i64 b.num, .slice Ab b.kids.length cb])] 98)).cell (p := ⟨kb, ko + 1, none⟩) hkba).trans ac1, ((later_alloc V (.cells #[.iface 76 (.string ⟨#[108, 101, 116]⟩), .iface 75 (.string s), .iface 77 (.string ⟨#[61]⟩), .iface 78 (.agg #[.int .i64 a.kind, .string a.name, .int .i64 a.num, .slice Aa a.kids.length ca]), .iface 76 (.string ⟨#[105, 110]⟩), .iface 78 (.agg #[.int .i64 b.kind, .string b.name, .int .i64 b.num, .slice Ab b.kids.length cb])] 98)).cell (p := ⟨kb, ko + 2, none⟩) hkba).trans ac2, ((later_alloc V (.cells #[.iface 76 (.string ⟨#[108, 101, 116]⟩), .iface 75 (.string s), .iface 77 (.string ⟨#[61]⟩), .iface 78 (.agg #[.int .i64 a.kind, .string a.name, .int .i64 a.num, .slice Aa a.kids.length ca]), .iface 76 (.string ⟨#[105, 110]⟩), .iface 78 (.agg #[.int .i64 b.kind, .string b.name, .int .i64 b.num, .slice Ab b.kids.length cb])] 98)).cell (p := ⟨kb, ko + 3, none⟩) hkba).trans ac3, ((later_alloc V (.cells #[.iface 76 (.string ⟨#[108, 101, 116]⟩), .iface 75 (.string s), .iface 77 (.string ⟨#[61]⟩), .iface 78 (.agg #[.int .i64 a.kind, .string a.name, .int .i64 a.num, .slice Aa a.kids.length ca]), .iface 76 (.string ⟨#[105, 110]⟩), .iface 78 (.agg #[.int .i64 b.kind, .string b.name, .int .i64 b.num, .slice Ab b.kids.length cb])] 98)).cell (p := ⟨kb, ko + 4, none⟩) hkba).trans bc0, ((later_alloc V (.cells #[.iface 76 (.string ⟨#[108, 101, 116]⟩), .iface 75 (.string s), .iface 77 (.string ⟨#[61]⟩), .iface 78 (.agg #[.int .i64 a.kind, .string a.name, .int .i64 a.num, .slice Aa a.kids.length ca]), .iface 76 (.string ⟨#[105, 110]⟩), .iface 78 (.agg #[.int .i64 b.kind, .string b.name, .int .i64 b.num, .slice Ab b.kids.length cb])] 98)).cell (p := ⟨kb, ko + 4 + 1, none⟩) hkba).trans bc1, ((later_alloc V (.cells #[.iface 76 (.string ⟨#[108, 101, 116]⟩), .iface 75 (.string s), .iface 77 (.string ⟨#[61]⟩), .iface 78 (.agg #[.int .i64 a.kind, .string a.name, .int .i64 a.num, .slice Aa a.kids.length ca]), .iface 76 (.string ⟨#[105, 110]⟩), .iface 78 (.agg #[.int .i64 b.kind, .string b.name, .int .i64 b.num, .slice Ab b.kids.length cb])] 98)).cell (p := ⟨kb, ko + 4 + 2, none⟩) hkba).trans bc2, ((later_alloc V (.cells #[.iface 76 (.string ⟨#[108, 101, 116]⟩), .iface 75 (.string s), .iface 77 (.string ⟨#[61]⟩), .iface 78 (.agg #[.int .i64 a.kind, .string a.name, .int .i64 a.num, .slice Aa a.kids.length ca]), .iface 76 (.string ⟨#[105, 110]⟩), .iface 78 (.agg #[.int .i64 b.kind, .string b.name, .int .i64 b.num, .slice Ab b.kids.length cb])] 98)).cell (p := ⟨kb, ko + 4 + 3, none⟩) hkba).trans bc3⟩
  have hSk : Hid (∀ v1 w1, LayPost base ts (([.inl (kTok [108, 101, 116]), .inl (nTok s.data.toList), .inl (mTok [61]), .inr (a, Aa, ca), .inl (kTok [105, 110]), .inr (b, Ab, cb)] : List Pt).flatMap partT) V.drew v v1 w1 → (w1).cell? ⟨w.heap.size, 1, none⟩ = some (.string s) ∧ (w1).cell? ⟨kb, ko, none⟩ = some (.int .i64 a.kind) ∧ (w1).cell? ⟨kb, ko + 1, none⟩ = some (.string a.name) ∧ (w1).cell? ⟨kb, ko + 2, none⟩ = some (.int .i64 a.num) ∧ (w1).cell? ⟨kb, ko + 3, none⟩ = some (.slice Aa a.kids.length ca) ∧ (w1).cell? ⟨kb, ko + 4, none⟩ = some (.int .i64 b.kind) ∧ (w1).cell? ⟨kb, ko + 4 + 1, none⟩ = some (.string b.name) ∧ (w1).cell? ⟨kb, ko + 4 + 2, none⟩ = some (.int .i64 b.num) ∧ (w1).cell? ⟨kb, ko + 4 + 3, none⟩ = some (.slice Ab b.kids.length cb)) := fun v1 w1 h => ⟨(h.2.cell (b := w.heap.size) (o := 1) hob).trans i1, (h.2.cell (b := kb) (o := ko) hokb).trans ac0, (h.2.cell (b := kb) (o := ko + 1) hokb).trans ac1, (h.2.cell (b := kb) (o := ko + 2) hokb).trans ac2, (h.2.cell (b := kb) (o := ko + 3) hokb).trans ac3, (h.2.cell (b := kb) (o := ko + 4) hokb).trans bc0, (h.2.cell (b := kb) (o := ko + 4 + 1) hokb).trans bc1, (h.2.cell (b := kb) (o := ko + 4 + 2) hokb).trans bc2, (h.2.cell (b := kb) (o := ko + 4 + 3) hokb).trans bc3⟩
  clear kl0 hbV hbW hgW hEW hOW hTW hT hown hE hok hkk htt hlen hl hva hvb
  replace hbx := Lib.hid hbx
  replace hV := Lib.hid hV
  replace hVs := Lib.hid hVs
  go_enter Tryz.func17, Tryz.ntmps17
  go_wp2_with fail
  try rw [hV.out]
  go_region_held3 (fun w' => (w').cell? ⟨w.heap.size, 1, none⟩ = some (.string s) ∧ (w').cell? ⟨kb, ko, none⟩ = some (.int .i64 a.kind) ∧ (w').cell? ⟨kb, ko + 1, none⟩ = some (.string a.name) ∧ (w').cell? ⟨kb, ko + 2, none⟩ = some (.int .i64 a.num) ∧ (w').cell? ⟨kb, ko + 3, none⟩ = some (.slice Aa a.kids.length ca) ∧ (w').cell? ⟨kb, ko + 4, none⟩ = some (.int .i64 b.kind) ∧ (w').cell? ⟨kb, ko + 4 + 1, none⟩ = some (.string b.name) ∧ (w').cell? ⟨kb, ko + 4 + 2, none⟩ = some (.int .i64 b.num) ∧ (w').cell? ⟨kb, ko + 4 + 3, none⟩ = some (.slice Ab b.kids.length cb)) (first | exact hS0 | exact hSa.out | exact hS1.out) (first | (go_at_call 31; refine kl.out.mono ?_; rintro e w1 ⟨v1, rfl, hp⟩; have hS1 := Lib.hid (hSk.out _ _ hp); replace hp := Lib.hid (hend.out _ _ hp); clear kl))
  all_goals go_wp2
  all_goals go_ret
  all_goals exact ⟨_, rfl, hp.out⟩

set_option maxRecDepth 100000 in
set_option maxHeartbeats 4000000 in
theorem laid_9 (s : ByteArray)  (a : Go.Tm.T) (b : Go.Tm.T) (Ha : KidStmt a) (Hb : KidStmt b) : LaidStmt (.node 9 s 0 [a, b]) := fun base v ts A c w h8 hbase hE hown hT hl => by
  have hbV : Below w.heap.size w (w.alloc (.cells #[.int .i64 9, .string s, .int .i64 0, .slice A 2 c] 24)) := later_alloc _ _
  have hbx : (w.alloc (.cells #[.int .i64 9, .string s, .int .i64 0, .slice A 2 c] 24)).heap[w.heap.size]? = some (.cells #[.int .i64 9, .string s, .int .i64 0, .slice A 2 c] 24 (0, 0)) := World.alloc_heap_new _ _
  have hVs : (w.alloc (.cells #[.int .i64 9, .string s, .int .i64 0, .slice A 2 c] 24)).heap.size = w.heap.size + 1 := by simp
  show Calls Tryz.prog 17 #[v, .agg #[.int .i64 9, .string s, .int .i64 0, .slice A 2 c]] w _
  obtain ⟨V, hV⟩ : ∃ V, w.alloc (.cells #[.int .i64 9, .string s, .int .i64 0, .slice A 2 c] 24) = V := ⟨_, rfl⟩
  rw [hV] at hbV hbx hVs
  have hbW : Below w.heap.size w V.drew := hbV.drew
  have hgW : Gr w V.drew v v := Gr.of_below hbW
  have hEW := hE.below (Nat.le_refl _) (hbW.mono hE.size)
  have hOW := own_below3 hown hbW
  have hTW := hgW.tm hT
  have hbs : base ≤ (V.drew).heap.size := Nat.le_trans hbase hbW.size
  have i0 := cell_of_row V w.heap.size 0 _ _ _ hbx
  have i1 := cell_of_row V w.heap.size 1 _ _ _ hbx
  have i2 := cell_of_row V w.heap.size 2 _ _ _ hbx
  have i3 := cell_of_row V w.heap.size 3 _ _ _ hbx
  have hlv : w.heap.size < V.heap.size := by omega
  have hob : Out V.drew v w.heap.size := ⟨hlv, fun e => by have := own_lt3 hown _ e; omega⟩
  obtain ⟨kb, ko, rfl, hrow⟩ := hTW.row.resolve_left (fun e => by cases e)
  obtain ⟨Aa, ca, hha, hva⟩ := node_tmv (hrow.get 0 (by show _ < 2; decide))
  replace hva : TmV V.drew (Out V.drew v) a Aa ca := hva
  have ac0 : V.cell? ⟨kb, ko, none⟩ = some (.int .i64 a.kind) := hha.kind
  have ac1 : V.cell? ⟨kb, ko + 1, none⟩ = some (.string a.name) := hha.name
  have ac2 : V.cell? ⟨kb, ko + 2, none⟩ = some (.int .i64 a.num) := hha.num
  have ac3 : V.cell? ⟨kb, ko + 3, none⟩ = some (.slice Aa a.kids.length ca) := hha.kids
  have hkba : kb < V.heap.size := hha.at_.1
  have hokb : Out V.drew v kb := hha.at_
  clear hha
  obtain ⟨Ab, cb, hhb, hvb⟩ := node_tmv (hrow.get 1 (by show _ < 2; decide))
  replace hvb : TmV V.drew (Out V.drew v) b Ab cb := hvb
  have bc0 : V.cell? ⟨kb, ko + 4, none⟩ = some (.int .i64 b.kind) := hhb.kind
  have bc1 : V.cell? ⟨kb, ko + 4 + 1, none⟩ = some (.string b.name) := hhb.name
  have bc2 : V.cell? ⟨kb, ko + 4 + 2, none⟩ = some (.int .i64 b.num) := hhb.num
  have bc3 : V.cell? ⟨kb, ko + 4 + 3, none⟩ = some (.slice Ab b.kids.length cb) := hhb.kids
  clear hhb
  clear hrow
  have hlen : ts.length + (([.inl (kTok [116, 114, 121]), .inr (a, Aa, ca), .inl (kTok [119, 105, 116, 104]), .inl (nTok s.data.toList), .inl (mTok [61, 62]), .inr (b, Ab, cb)] : List Pt).flatMap partT).length ≤ 1099511627776 := by rw [toks_9] at hl; simpa [partT] using hl
  have hok : ∀ p ∈ ([.inl (kTok [116, 114, 121]), .inr (a, Aa, ca), .inl (kTok [119, 105, 116, 104]), .inl (nTok s.data.toList), .inl (mTok [61, 62]), .inr (b, Ab, cb)] : List Pt), partOk p := by
    intro p hp
    simp only [List.mem_cons, List.not_mem_nil, or_false] at hp
    rcases hp with rfl | rfl | rfl | rfl | rfl | rfl
    · exact .inl ⟨.inr (.inl rfl), rfl⟩
    · exact trivial
    · exact .inl ⟨.inr (.inl rfl), rfl⟩
    · exact .inl ⟨.inl rfl, rfl⟩
    · exact .inl ⟨.inr (.inr rfl), rfl⟩
    · exact trivial
  have hkk : ∀ u, .inr u ∈ ([.inl (kTok [116, 114, 121]), .inr (a, Aa, ca), .inl (kTok [119, 105, 116, 104]), .inl (nTok s.data.toList), .inl (mTok [61, 62]), .inr (b, Ab, cb)] : List Pt) → KidStmt u.1 := by
    intro u hu
    simp at hu
    rcases hu with rfl | rfl
    · exact Ha
    · exact Hb
  have htt : ∀ u, .inr u ∈ ([.inl (kTok [116, 114, 121]), .inr (a, Aa, ca), .inl (kTok [119, 105, 116, 104]), .inl (nTok s.data.toList), .inl (mTok [61, 62]), .inr (b, Ab, cb)] : List Pt) → TmV V.drew (Out V.drew v) u.1 u.2.1 u.2.2 := by
    intro u hu
    simp at hu
    rcases hu with rfl | rfl
    · exact hva
    · exact hvb
  have kl0 := lay_new [.inl (kTok [116, 114, 121]), .inr (a, Aa, ca), .inl (kTok [119, 105, 116, 104]), .inl (nTok s.data.toList), .inl (mTok [61, 62]), .inr (b, Ab, cb)] hok hkk base v ts 6 V.drew 98 h8 hbs hEW hOW htt hlen (by show 6 ≤ _; decide)
  have kl : Calls Tryz.prog 31 #[v, .slice (some ⟨V.heap.size, 0, none⟩) 6 6] (V.drew.alloc (.cells #[.iface 76 (.string ⟨#[116, 114, 121]⟩), .iface 78 (.agg #[.int .i64 a.kind, .string a.name, .int .i64 a.num, .slice Aa a.kids.length ca]), .iface 76 (.string ⟨#[119, 105, 116, 104]⟩), .iface 75 (.string s), .iface 77 (.string ⟨#[61, 62]⟩), .iface 78 (.agg #[.int .i64 b.kind, .string b.name, .int .i64 b.num, .slice Ab b.kids.length cb])] 98)) fun e w' => ∃ v', e = .returned v' ∧ LayPost base ts (([.inl (kTok [116, 114, 121]), .inr (a, Aa, ca), .inl (kTok [119, 105, 116, 104]), .inl (nTok s.data.toList), .inl (mTok [61, 62]), .inr (b, Ab, cb)] : List Pt).flatMap partT) V.drew v v' w' := kl0
  replace kl := Lib.hid kl
  have hend : Hid (∀ v' w', LayPost base ts (([.inl (kTok [116, 114, 121]), .inr (a, Aa, ca), .inl (kTok [119, 105, 116, 104]), .inl (nTok s.data.toList), .inl (mTok [61, 62]), .inr (b, Ab, cb)] : List Pt).flatMap partT) V.drew v v' w' → LayPost base ts (toksT (.node 9 s 0 [a, b])) w v v' w') := fun v' w' h => by
    have e : toksT (.node 9 s 0 [a, b]) = ([.inl (kTok [116, 114, 121]), .inr (a, Aa, ca), .inl (kTok [119, 105, 116, 104]), .inl (nTok s.data.toList), .inl (mTok [61, 62]), .inr (b, Ab, cb)] : List Pt).flatMap partT := by rw [toks_9]; first | rfl | simp [partT]
    rw [e]; exact h.of hgW
  have hS0 : (V).cell? ⟨w.heap.size, 1, none⟩ = some (.string s) ∧ (V).cell? ⟨kb, ko, none⟩ = some (.int .i64 a.kind) ∧ (V).cell? ⟨kb, ko + 1, none⟩ = some (.string a.name) ∧ (V).cell? ⟨kb, ko + 2, none⟩ = some (.int .i64 a.num) ∧ (V).cell? ⟨kb, ko + 3, none⟩ = some (.slice Aa a.kids.length ca) ∧ (V).cell? ⟨kb, ko + 4, none⟩ = some (.int .i64 b.kind) ∧ (V).cell? ⟨kb, ko + 4 + 1, none⟩ = some (.string b.name) ∧ (V).cell? ⟨kb, ko + 4 + 2, none⟩ = some (.int .i64 b.num) ∧ (V).cell? ⟨kb, ko + 4 + 3, none⟩ = some (.slice Ab b.kids.length cb) := ⟨i1, ac0, ac1, ac2, ac3, bc0, bc1, bc2, bc3⟩
  have hSa : Hid (((V.alloc (.cells #[.iface 76 (.string ⟨#[116, 114, 121]⟩), .iface 78 (.agg #[.int .i64 a.kind, .string a.name, .int .i64 a.num, .slice Aa a.kids.length ca]), .iface 76 (.string ⟨#[119, 105, 116, 104]⟩), .iface 75 (.string s), .iface 77 (.string ⟨#[61, 62]⟩), .iface 78 (.agg #[.int .i64 b.kind, .string b.name, .int .i64 b.num, .slice Ab b.kids.length cb])] 98)).drew).cell? ⟨w.heap.size, 1, none⟩ = some (.string s) ∧ ((V.alloc (.cells #[.iface 76 (.string ⟨#[116, 114, 121]⟩), .iface 78 (.agg #[.int .i64 a.kind, .string a.name, .int .i64 a.num, .slice Aa a.kids.length ca]), .iface 76 (.string ⟨#[119, 105, 116, 104]⟩), .iface 75 (.string s), .iface 77 (.string ⟨#[61, 62]⟩), .iface 78 (.agg #[.int .i64 b.kind, .string b.name, .int .i64 b.num, .slice Ab b.kids.length cb])] 98)).drew).cell? ⟨kb, ko, none⟩ = some (.int .i64 a.kind) ∧ ((V.alloc (.cells #[.iface 76 (.string ⟨#[116, 114, 121]⟩), .iface 78 (.agg #[.int .i64 a.kind, .string a.name, .int .i64 a.num, .slice Aa a.kids.length ca]), .iface 76 (.string ⟨#[119, 105, 116, 104]⟩), .iface 75 (.string s), .iface 77 (.string ⟨#[61, 62]⟩), .iface 78 (.agg #[.int .i64 b.kind, .string b.name, .int .i64 b.num, .slice Ab b.kids.length cb])] 98)).drew).cell? ⟨kb, ko + 1, none⟩ = some (.string a.name) ∧ ((V.alloc (.cells #[.iface 76 (.string ⟨#[116, 114, 121]⟩), .iface 78 (.agg #[.int .i64 a.kind, .string a.name, .int .i64 a.num, .slice Aa a.kids.length ca]), .iface 76 (.string ⟨#[119, 105, 116, 104]⟩), .iface 75 (.string s), .iface 77 (.string ⟨#[61, 62]⟩), .iface 78 (.agg #[.int .i64 b.kind, .string b.name, .int .i64 b.num, .slice Ab b.kids.length cb])] 98)).drew).cell? ⟨kb, ko + 2, none⟩ = some (.int .i64 a.num) ∧ ((V.alloc (.cells #[.iface 76 (.string ⟨#[116, 114, 121]⟩), .iface 78 (.agg #[.int .i64 a.kind, .string a.name, .int .i64 a.num, .slice Aa a.kids.length ca]), .iface 76 (.string ⟨#[119, 105, 116, 104]⟩), .iface 75 (.string s), .iface 77 (.string ⟨#[61, 62]⟩), .iface 78 (.agg #[.int .i64 b.kind, .string b.name, .int .i64 b.num, .slice Ab b.kids.length cb])] 98)).drew).cell? ⟨kb, ko + 3, none⟩ = some (.slice Aa a.kids.length ca) ∧ ((V.alloc (.cells #[.iface 76 (.string ⟨#[116, 114, 121]⟩), .iface 78 (.agg #[.int .i64 a.kind, .string a.name, .int .i64 a.num, .slice Aa a.kids.length ca]), .iface 76 (.string ⟨#[119, 105, 116, 104]⟩), .iface 75 (.string s), .iface 77 (.string ⟨#[61, 62]⟩), .iface 78 (.agg #[.int .i64 b.kind, .string b.name, .int .i64 b.num, .slice Ab b.kids.length cb])] 98)).drew).cell? ⟨kb, ko + 4, none⟩ = some (.int .i64 b.kind) ∧ ((V.alloc (.cells #[.iface 76 (.string ⟨#[116, 114, 121]⟩), .iface 78 (.agg #[.int .i64 a.kind, .string a.name, .int .i64 a.num, .slice Aa a.kids.length ca]), .iface 76 (.string ⟨#[119, 105, 116, 104]⟩), .iface 75 (.string s), .iface 77 (.string ⟨#[61, 62]⟩), .iface 78 (.agg #[.int .i64 b.kind, .string b.name, .int .i64 b.num, .slice Ab b.kids.length cb])] 98)).drew).cell? ⟨kb, ko + 4 + 1, none⟩ = some (.string b.name) ∧ ((V.alloc (.cells #[.iface 76 (.string ⟨#[116, 114, 121]⟩), .iface 78 (.agg #[.int .i64 a.kind, .string a.name, .int .i64 a.num, .slice Aa a.kids.length ca]), .iface 76 (.string ⟨#[119, 105, 116, 104]⟩), .iface 75 (.string s), .iface 77 (.string ⟨#[61, 62]⟩), .iface 78 (.agg #[.int .i64 b.kind, .string b.name, .int .i64 b.num, .slice Ab b.kids.length cb])] 98)).drew).cell? ⟨kb, ko + 4 + 2, none⟩ = some (.int .i64 b.num) ∧ ((V.alloc (.cells #[.iface 76 (.string ⟨#[116, 114, 121]⟩), .iface 78 (.agg #[.int .i64 a.kind, .string a.name, .int .i64 a.num, .slice Aa a.kids.length ca]), .iface 76 (.string ⟨#[119, 105, 116, 104]⟩), .iface 75 (.string s), .iface 77 (.string ⟨#[61, 62]⟩), .iface 78 (.agg #[.int .i64 b.kind, .string b.name, .int .i64 b.num, .slice Ab b.kids.length cb])] 98)).drew).cell? ⟨kb, ko + 4 + 3, none⟩ = some (.slice Ab b.kids.length cb)) := ⟨((later_alloc V (.cells #[.iface 76 (.string ⟨#[116, 114, 121]⟩), .iface 78 (.agg #[.int .i64 a.kind, .string a.name, .int .i64 a.num, .slice Aa a.kids.length ca]), .iface 76 (.string ⟨#[119, 105, 116, 104]⟩), .iface 75 (.string s), .iface 77 (.string ⟨#[61, 62]⟩), .iface 78 (.agg #[.int .i64 b.kind, .string b.name, .int .i64 b.num, .slice Ab b.kids.length cb])] 98)).cell (p := ⟨w.heap.size, 1, none⟩) hlv).trans i1, ((later_alloc V (.cells #[.iface 76 (.string ⟨#[116, 114, 121]⟩), .iface 78 (.agg #[.int .i64 a.kind, .string a.name, .int .i64 a.num, .slice Aa a.kids.length ca]), .iface 76 (.string ⟨#[119, 105, 116, 104]⟩), .iface 75 (.string s), .iface 77 (.string ⟨#[61, 62]⟩), .iface 78 (.agg #[.int .i64 b.kind, .string b.name, .int .i64 b.num, .slice Ab b.kids.length cb])] 98)).cell (p := ⟨kb, ko, none⟩) hkba).trans ac0, ((later_alloc V (.cells #[.iface 76 (.string ⟨#[116, 114, 121]⟩), .iface 78 (.agg #[.int .i64 a.kind, .string a.name, .int .i64 a.num, .slice Aa a.kids.length ca]), .iface 76 (.string ⟨#[119, 105, 116, 104]⟩), .iface 75 (.string s), .iface 77 (.string ⟨#[61, 62]⟩), .iface 78 (.agg #[.int .i64 b.kind, .string b.name, .int .i64 b.num, .slice Ab b.kids.length cb])] 98)).cell (p := ⟨kb, ko + 1, none⟩) hkba).trans ac1, ((later_alloc V (.cells #[.iface 76 (.string ⟨#[116, 114, 121]⟩), .iface 78 (.agg #[.int .i64 a.kind, .string a.name, .int .i64 a.num, .slice Aa a.kids.length ca]), .iface 76 (.string ⟨#[119, 105, 116, 104]⟩), .iface 75 (.string s), .iface 77 (.string ⟨#[61, 62]⟩), .iface 78 (.agg #[.int .i64 b.kind, .string b.name, .int .i64 b.num, .slice Ab b.kids.length cb])] 98)).cell (p := ⟨kb, ko + 2, none⟩) hkba).trans ac2, ((later_alloc V (.cells #[.iface 76 (.string ⟨#[116, 114, 121]⟩), .iface 78 (.agg #[.int .i64 a.kind, .string a.name, .int .i64 a.num, .slice Aa a.kids.length ca]), .iface 76 (.string ⟨#[119, 105, 116, 104]⟩), .iface 75 (.string s), .iface 77 (.string ⟨#[61, 62]⟩), .iface 78 (.agg #[.int .i64 b.kind, .string b.name, .int .i64 b.num, .slice Ab b.kids.length cb])] 98)).cell (p := ⟨kb, ko + 3, none⟩) hkba).trans ac3, ((later_alloc V (.cells #[.iface 76 (.string ⟨#[116, 114, 121]⟩), .iface 78 (.agg #[.int .i64 a.kind, .string a.name, .int .i64 a.num, .slice Aa a.kids.length ca]), .iface 76 (.string ⟨#[119, 105, 116, 104]⟩), .iface 75 (.string s), .iface 77 (.string ⟨#[61, 62]⟩), .iface 78 (.agg #[.int .i64 b.kind, .string b.name, .int .i64 b.num, .slice Ab b.kids.length cb])] 98)).cell (p := ⟨kb, ko + 4, none⟩) hkba).trans bc0, ((later_alloc V (.cells #[.iface 76 (.string ⟨#[116, 114, 121]⟩), .iface 78 (.agg #[.int .i64 a.kind, .string a.name, .int .i64 a.num, .slice Aa a.kids.length ca]), .iface 76 (.string ⟨#[119, 105, 116, 104]⟩), .iface 75 (.string s), .iface 77 (.string ⟨#[61, 62]⟩), .iface 78 (.agg #[.int .i64 b.kind, .string b.name, .int .i64 b.num, .slice Ab b.kids.length cb])] 98)).cell (p := ⟨kb, ko + 4 + 1, none⟩) hkba).trans bc1, ((later_alloc V (.cells #[.iface 76 (.string ⟨#[116, 114, 121]⟩), .iface 78 (.agg #[.int .i64 a.kind, .string a.name, .int .i64 a.num, .slice Aa a.kids.length ca]), .iface 76 (.string ⟨#[119, 105, 116, 104]⟩), .iface 75 (.string s), .iface 77 (.string ⟨#[61, 62]⟩), .iface 78 (.agg #[.int .i64 b.kind, .string b.name, .int .i64 b.num, .slice Ab b.kids.length cb])] 98)).cell (p := ⟨kb, ko + 4 + 2, none⟩) hkba).trans bc2, ((later_alloc V (.cells #[.iface 76 (.string ⟨#[116, 114, 121]⟩), .iface 78 (.agg #[.int .i64 a.kind, .string a.name, .int .i64 a.num, .slice Aa a.kids.length ca]), .iface 76 (.string ⟨#[119, 105, 116, 104]⟩), .iface 75 (.string s), .iface 77 (.string ⟨#[61, 62]⟩), .iface 78 (.agg #[.int .i64 b.kind, .string b.name, .int .i64 b.num, .slice Ab b.kids.length cb])] 98)).cell (p := ⟨kb, ko + 4 + 3, none⟩) hkba).trans bc3⟩
  have hSk : Hid (∀ v1 w1, LayPost base ts (([.inl (kTok [116, 114, 121]), .inr (a, Aa, ca), .inl (kTok [119, 105, 116, 104]), .inl (nTok s.data.toList), .inl (mTok [61, 62]), .inr (b, Ab, cb)] : List Pt).flatMap partT) V.drew v v1 w1 → (w1).cell? ⟨w.heap.size, 1, none⟩ = some (.string s) ∧ (w1).cell? ⟨kb, ko, none⟩ = some (.int .i64 a.kind) ∧ (w1).cell? ⟨kb, ko + 1, none⟩ = some (.string a.name) ∧ (w1).cell? ⟨kb, ko + 2, none⟩ = some (.int .i64 a.num) ∧ (w1).cell? ⟨kb, ko + 3, none⟩ = some (.slice Aa a.kids.length ca) ∧ (w1).cell? ⟨kb, ko + 4, none⟩ = some (.int .i64 b.kind) ∧ (w1).cell? ⟨kb, ko + 4 + 1, none⟩ = some (.string b.name) ∧ (w1).cell? ⟨kb, ko + 4 + 2, none⟩ = some (.int .i64 b.num) ∧ (w1).cell? ⟨kb, ko + 4 + 3, none⟩ = some (.slice Ab b.kids.length cb)) := fun v1 w1 h => ⟨(h.2.cell (b := w.heap.size) (o := 1) hob).trans i1, (h.2.cell (b := kb) (o := ko) hokb).trans ac0, (h.2.cell (b := kb) (o := ko + 1) hokb).trans ac1, (h.2.cell (b := kb) (o := ko + 2) hokb).trans ac2, (h.2.cell (b := kb) (o := ko + 3) hokb).trans ac3, (h.2.cell (b := kb) (o := ko + 4) hokb).trans bc0, (h.2.cell (b := kb) (o := ko + 4 + 1) hokb).trans bc1, (h.2.cell (b := kb) (o := ko + 4 + 2) hokb).trans bc2, (h.2.cell (b := kb) (o := ko + 4 + 3) hokb).trans bc3⟩
  clear kl0 hbV hbW hgW hEW hOW hTW hT hown hE hok hkk htt hlen hl hva hvb
  replace hbx := Lib.hid hbx
  replace hV := Lib.hid hV
  replace hVs := Lib.hid hVs
  go_enter Tryz.func17, Tryz.ntmps17
  go_wp2_with fail
  try rw [hV.out]
  go_region_held3 (fun w' => (w').cell? ⟨w.heap.size, 1, none⟩ = some (.string s) ∧ (w').cell? ⟨kb, ko, none⟩ = some (.int .i64 a.kind) ∧ (w').cell? ⟨kb, ko + 1, none⟩ = some (.string a.name) ∧ (w').cell? ⟨kb, ko + 2, none⟩ = some (.int .i64 a.num) ∧ (w').cell? ⟨kb, ko + 3, none⟩ = some (.slice Aa a.kids.length ca) ∧ (w').cell? ⟨kb, ko + 4, none⟩ = some (.int .i64 b.kind) ∧ (w').cell? ⟨kb, ko + 4 + 1, none⟩ = some (.string b.name) ∧ (w').cell? ⟨kb, ko + 4 + 2, none⟩ = some (.int .i64 b.num) ∧ (w').cell? ⟨kb, ko + 4 + 3, none⟩ = some (.slice Ab b.kids.length cb)) (first | exact hS0 | exact hSa.out | exact hS1.out) (first | (go_at_call 31; refine kl.out.mono ?_; rintro e w1 ⟨v1, rfl, hp⟩; have hS1 := Lib.hid (hSk.out _ _ hp); replace hp := Lib.hid (hend.out _ _ hp); clear kl))
  all_goals go_wp2
  all_goals go_ret
  all_goals exact ⟨_, rfl, hp.out⟩

end Go.Proofs.YthmchdpinobbgaaGreatDoor
