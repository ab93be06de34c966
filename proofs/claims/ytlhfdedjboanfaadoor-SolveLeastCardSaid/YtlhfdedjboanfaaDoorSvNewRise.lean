/-
  newRise, its first region by an invariant of what has come up: one walk an operation, however many orders there are. Condition: the lattice is right, the pairs are known, all can be read; the library's table lies as laid.
-/
import Derived.Test.YtlhfdedjboanfaaDoorSvLink
import Derived.Deep.CutRange
import Derived.Deep.CutBlock
namespace Go
section
variable {P : Program} {ops : Array Oper} {Q : Exit → Act → World → Prop} {md : Region.Mode}
/-- how many are still to come -/
def stillN (listed : Array Bool) : Nat → Nat
  | 0 => 0
  | n + 1 => stillN listed n + (if listed.getD n true = false then 1 else 0)
theorem stillN_set {listed : Array Bool} {i : Nat} (h : listed.getD i true = false) : ∀ n, (i < n → stillN (listed.setIfInBounds i true) n + 1 = stillN listed n) ∧ (n ≤ i → stillN (listed.setIfInBounds i true) n = stillN listed n)
  | 0 => ⟨fun h => absurd h (Nat.not_lt_zero _), fun _ => rfl⟩
  | n + 1 => by
    obtain ⟨h1, h2⟩ := stillN_set h n
    have hi : i < listed.size := by
      rcases Nat.lt_or_ge i listed.size with h' | h'
      · exact h'
      · rw [Array.getD_eq_getD_getElem?, Array.getElem?_eq_none h'] at h; cases h
    refine ⟨fun hn => ?_, fun hn => ?_⟩
    · by_cases e : i = n
      · subst e
        have h3 := h2 (Nat.le_refl _)
        unfold stillN
        rw [h3, if_pos h, if_neg (by rw [Array.getD_eq_getD_getElem?, Array.getElem?_setIfInBounds_self_of_lt hi]; simp)]
      · have h3 := h1 (by omega)
        unfold stillN
        rw [getD_set_ne true e]
        omega
    · unfold stillN
      rw [h2 (by omega), getD_set_ne true (by omega)]
theorem stillN_zero {listed : Array Bool} : ∀ {n : Nat}, stillN listed n = 0 → ∀ j, j < n → listed.getD j true = true
  | 0, _, _, h => absurd h (Nat.not_lt_zero _)
  | n + 1, h, j, hj => by
    unfold stillN at h
    by_cases e : j = n
    · subst e
      cases hx : listed.getD j true with
      | true => rfl
      | false => rw [if_pos hx] at h; omega
    · exact stillN_zero (n := n) (by omega) j (by omega)
/-- **THE LAW**: an invariant of what has come up is kept by whatever may come up next, and at the end gives what is asked. -/
theorem wpAny_inv (I : Array Bool → Act → World → Prop)
    (hstep : ∀ listed a w, I listed a w → ∀ i, i ∈ Region.ready md ops listed → wpOp P ops Q i (fun a' w' => I (listed.setIfInBounds i true) a' w') a w)
    (hend : ∀ listed a w, I listed a w → Region.ready md ops listed = [] → Q .normal a w) : ∀ fuel listed a w, stillN listed ops.size ≤ fuel → I listed a w → wpAny P md ops Q fuel listed a w
  | 0, listed, a, w, hf, h => by
    have hr : Region.ready md ops listed = [] := by
      rw [List.eq_nil_iff_forall_not_mem]
      intro j hj
      obtain ⟨h0, o, ho, _⟩ := mem_ready.1 hj
      have hlt : j < ops.size := by
        rcases Nat.lt_or_ge j ops.size with h' | h'
        · exact h'
        · rw [Array.getElem?_eq_none h'] at ho; cases ho
      rw [stillN_zero (Nat.le_zero.1 hf) j hlt] at h0
      cases h0
    exact ⟨hr, hend _ _ _ h hr⟩
  | fuel + 1, listed, a, w, hf, h => ⟨hend _ _ _ h, fun i hi => by
    obtain ⟨h0, o, ho, _⟩ := mem_ready.1 hi
    have hlt : i < ops.size := by
      rcases Nat.lt_or_ge i ops.size with h' | h'
      · exact h'
      · rw [Array.getElem?_eq_none h'] at ho; cases ho
    have hs := (stillN_set h0 ops.size).1 hlt
    exact wpOp_mono (fun a' w' h' => wpAny_inv I hstep hend fuel _ a' w' (by omega) h') (hstep listed a w h i hi)⟩
theorem stillN_le (listed : Array Bool) : ∀ n, stillN listed n ≤ n
  | 0 => Nat.le_refl _
  | n + 1 => by
    have := stillN_le listed n
    unfold stillN
    split <;> omega
theorem wp_region_inv {id : Nat} {a : Act} {w : World} (hm : P.follows .mixedOrders = true) (I : Array Bool → Act → World → Prop)
    (h0 : I (Array.replicate ops.size false) a w.drew)
    (hstep : ∀ listed a w, I listed a w → ∀ i, i ∈ Region.ready .any ops listed → wpOp P ops Q i (fun a' w' => I (listed.setIfInBounds i true) a' w') a w)
    (hend : ∀ listed a w, I listed a w → Region.ready .any ops listed = [] → Q .normal a w) : (Code.region id ops true).wp P Q a w :=
  wp_region_any hm (wpAny_inv I hstep hend _ _ _ _ (stillN_le _ _) h0)
/-- where nothing may come up, all has come up whose forerunners have -/
theorem listed_of_nil {listed : Array Bool} (h : Region.ready md ops listed = []) (hs : listed.size = ops.size) {j : Nat} {o : Oper} (ho : ops[j]? = some o) (hd : ∀ e ∈ o.after, listed.getD e.on false = true) : listed.getD j false = true := by
  have hlt : j < listed.size := by
    rw [hs]
    rcases Nat.lt_or_ge j ops.size with h' | h'
    · exact h'
    · rw [Array.getElem?_eq_none h'] at ho; cases ho
  cases hx : listed.getD j true with
  | true => rw [Array.getD_eq_getD_getElem?, Array.getElem?_eq_getElem hlt] at hx ⊢; exact hx
  | false =>
    have : j ∈ Region.ready md ops listed := mem_ready.2 ⟨hx, o, ho, fun e he _ => hd e he⟩
    rw [h] at this
    cases this
/-- each operation waits for earlier ones alone -/
def ordOk (ops : Array Oper) : Bool := (List.range ops.size).all fun j => match ops[j]? with
  | some o => o.after.all fun e => decide (e.on < j)
  | none => true
theorem listed_all {ops : Array Oper} {md : Region.Mode} {listed : Array Bool} (h : Region.ready md ops listed = []) (hs : listed.size = ops.size) (ho : ordOk ops = true) : ∀ m j, j < m → j < ops.size → listed.getD j false = true
  | 0, _, hj, _ => absurd hj (Nat.not_lt_zero _)
  | m + 1, j, hj, hl => by
    have h1 := List.all_eq_true.1 ho j (List.mem_range.2 hl)
    rw [Array.getElem?_eq_getElem hl] at h1
    refine listed_of_nil h hs (Array.getElem?_eq_getElem hl) fun e he => ?_
    have h2 := of_decide_eq_true (Array.all_eq_true'.1 h1 e he)
    exact listed_all h hs ho m e.on (by omega) (by omega)
theorem rep_no {n j : Nat} (h : (Array.replicate n false).getD j false = true) : False := by
  rw [Array.getD_eq_getD_getElem?, Array.getElem?_replicate] at h
  split at h <;> cases h
theorem getD_put {listed : Array Bool} {i j : Nat} (h : i ≠ j) (hx : (listed.setIfInBounds i true).getD j false = true) : listed.getD j false = true := by
  rwa [getD_set_ne false h] at hx
end
end Go
namespace Go.Proofs.YtlhfdedjboanfaaDoor
open Go.RowKit Go.Shelf Go.At Go.Sv

/-- the frame of newRise's first region -/
def mkF (f0 f1 f2 f3 f7 u8 u18 u19 u20 u21 u22 u23 u24 u25 u26 u27 u28 u29 u30 u31 u32 u33 u34 : Value) : Act := { tmps := #[f0, f1, f2, f3, undef, undef, .pointer none, f7, u8, undef, undef, undef, undef, undef, undef, undef, f1, f7, u18, u19, u20, u21, u22, u23, u24, u25, u26, u27, u28, u29, u30, u31, u32, u33, u34, undef, undef, undef, undef, undef, undef, undef, undef, undef, undef, undef, undef, undef, undef, undef, undef, undef, undef, undef, undef, undef, undef, undef, undef, undef, undef, undef, undef, undef, undef, undef, undef, undef, undef, undef, undef, undef, undef, undef, undef, undef, undef, undef, undef, undef, undef, undef, undef, undef, undef, undef, undef, undef, undef, undef, undef, undef, undef, undef, undef, undef], defers := [] }
/-- four rows, laid -/
def Four (W : World) (base n r g1 g2 g3 g4 : Nat) : Prop :=
  (base ≤ g1 ∧ W.heap[g1]? = some (.cells (List.replicate n (Value.int .u64 (r : Nat))).toArray 72 (0, 0))) ∧ (base ≤ g2 ∧ W.heap[g2]? = some (.cells (madeCells #[.slice none 0 0] n) 74 (0, 0))) ∧
  (base ≤ g3 ∧ W.heap[g3]? = some (.cells (madeCells #[.int .i64 0] n) 3 (0, 0))) ∧ (base ≤ g4 ∧ W.heap[g4]? = some (.cells (madeCells #[.bool false] n) 4 (0, 0)))
theorem Four.later {W W' : World} {base n r g1 g2 g3 g4 : Nat} (h : Four W base n r g1 g2 g3 g4) (hb : Below W.heap.size W W') : Four W' base n r g1 g2 g3 g4 :=
  ⟨⟨h.1.1, get_below h.1.2 hb⟩, ⟨h.2.1.1, get_below h.2.1.2 hb⟩, ⟨h.2.2.1.1, get_below h.2.2.1.2 hb⟩, ⟨h.2.2.2.1, get_below h.2.2.2.2 hb⟩⟩
def fourV (n g1 g2 g3 g4 : Nat) : Array Value := #[.slice (some ⟨g1, 0, none⟩) n n, .slice (some ⟨g2, 0, none⟩) n n, .slice (some ⟨g3, 0, none⟩) n n, .slice none 0 0, .slice (some ⟨g4, 0, none⟩) n n]
/-- what each operation that has come up has left -/
structure NF (f0 : Value) (bx bu ou U d z r n base : Nat) (L : Nat → Bool) (u8 u18 u19 u20 u21 u22 u23 u24 u25 u26 u27 u28 u29 u30 u31 u32 u33 u34 : Value) (W : World) : Prop where
  p0 : L 0 = true → u18 = .pointer (some ⟨bx, 1, none⟩)
  p1 : L 1 = true → u19 = .slice (some ⟨bu, ou, none⟩) U d
  p2 : L 2 = true → u20 = f0
  p3 : L 3 = true → u21 = .int .i64 (z : Nat)
  p4 : L 4 = true → u22 = .pointer (some ⟨bu, ou + z, none⟩)
  p5 : L 5 = true → u23 = .int .u64 (r : Nat)
  p6 : L 6 = true → ∃ b, u24 = .slice (some ⟨b, 0, none⟩) 1 1 ∧ W.heap[b]? = some (.cells #[.int .u64 (r : Nat)] 72 (0, 0))
  p7 : L 7 = true → u25 = .int .i64 (n : Nat)
  p8 : L 8 = true → ∃ g, u26 = .slice (some ⟨g, 0, none⟩) n n ∧ base ≤ g ∧ W.heap[g]? = some (.cells (List.replicate n (Value.int .u64 (r : Nat))).toArray 72 (0, 0))
  p9 : L 9 = true → u27 = .int .i64 (n : Nat)
  p10 : L 10 = true → ∃ g, u28 = .slice (some ⟨g, 0, none⟩) n n ∧ base ≤ g ∧ W.heap[g]? = some (.cells (madeCells #[.slice none 0 0] n) 74 (0, 0))
  p11 : L 11 = true → u29 = .int .i64 (n : Nat)
  p12 : L 12 = true → ∃ g, u30 = .slice (some ⟨g, 0, none⟩) n n ∧ base ≤ g ∧ W.heap[g]? = some (.cells (madeCells #[.int .i64 0] n) 3 (0, 0))
  p13 : L 13 = true → u31 = .int .i64 (n : Nat)
  p14 : L 14 = true → ∃ g, u32 = .slice (some ⟨g, 0, none⟩) n n ∧ base ≤ g ∧ W.heap[g]? = some (.cells (madeCells #[.bool false] n) 4 (0, 0))
  p15 : L 15 = true → ∃ g1 g2 g3 g4, u33 = .agg (fourV n g1 g2 g3 g4) ∧ Four W base n r g1 g2 g3 g4
  p16 : L 16 = true → ∃ q g1 g2 g3 g4, u34 = .pointer (some ⟨q, 0, none⟩) ∧ base ≤ q ∧ W.heap[q]? = some (.cells (fourV n g1 g2 g3 g4) 77 (0, 0)) ∧ Four W base n r g1 g2 g3 g4
  p17 : L 17 = true → ∃ q g1 g2 g3 g4, u8 = .pointer (some ⟨q, 0, none⟩) ∧ base ≤ q ∧ W.heap[q]? = some (.cells (fourV n g1 g2 g3 g4) 77 (0, 0)) ∧ Four W base n r g1 g2 g3 g4
theorem NF.later {f0 : Value} {bx bu ou U d z r n base : Nat} {L : Nat → Bool} {u8 u18 u19 u20 u21 u22 u23 u24 u25 u26 u27 u28 u29 u30 u31 u32 u33 u34 : Value} {W W' : World} (h : NF f0 bx bu ou U d z r n base L u8 u18 u19 u20 u21 u22 u23 u24 u25 u26 u27 u28 u29 u30 u31 u32 u33 u34 W) (hb : Below W.heap.size W W') : NF f0 bx bu ou U d z r n base L u8 u18 u19 u20 u21 u22 u23 u24 u25 u26 u27 u28 u29 u30 u31 u32 u33 u34 W' :=
  ⟨h.p0, h.p1, h.p2, h.p3, h.p4, h.p5, fun k => (h.p6 k).imp fun b x => ⟨x.1, get_below x.2 hb⟩, h.p7, fun k => (h.p8 k).imp fun b x => ⟨x.1, x.2.1, get_below x.2.2 hb⟩, h.p9, fun k => (h.p10 k).imp fun b x => ⟨x.1, x.2.1, get_below x.2.2 hb⟩, h.p11,
    fun k => (h.p12 k).imp fun b x => ⟨x.1, x.2.1, get_below x.2.2 hb⟩, h.p13, fun k => (h.p14 k).imp fun b x => ⟨x.1, x.2.1, get_below x.2.2 hb⟩,
    fun k => by obtain ⟨g1, g2, g3, g4, x, y⟩ := h.p15 k; exact ⟨g1, g2, g3, g4, x, y.later hb⟩,
    fun k => by obtain ⟨q, g1, g2, g3, g4, x, x1, x2, y⟩ := h.p16 k; exact ⟨q, g1, g2, g3, g4, x, x1, get_below x2 hb, y.later hb⟩,
    fun k => by obtain ⟨q, g1, g2, g3, g4, x, x1, x2, y⟩ := h.p17 k; exact ⟨q, g1, g2, g3, g4, x, x1, get_below x2 hb, y.later hb⟩⟩
/-- the invariant -/
def NI (f0 f1 f2 f3 f7 : Value) (bx bu ou U d z r n base : Nat) (W0 : World) (listed : Array Bool) (a : Act) (W : World) : Prop :=
  listed.size = 18 ∧ Hid (Below base W0 W) ∧ ∃ u8 u18 u19 u20 u21 u22 u23 u24 u25 u26 u27 u28 u29 u30 u31 u32 u33 u34 : Value, a = mkF f0 f1 f2 f3 f7 u8 u18 u19 u20 u21 u22 u23 u24 u25 u26 u27 u28 u29 u30 u31 u32 u33 u34 ∧ Hid (NF f0 bx bu ou U d z r n base (fun j => listed.getD j false) u8 u18 u19 u20 u21 u22 u23 u24 u25 u26 u27 u28 u29 u30 u31 u32 u33 u34 W)
theorem NF.next0 {f0 : Value} {bx bu ou U d z r n base : Nat} {listed : Array Bool} {u8 u18 u19 u20 u21 u22 u23 u24 u25 u26 u27 u28 u29 u30 u31 u32 u33 u34 v : Value} {W : World} (h : NF f0 bx bu ou U d z r n base (fun j => listed.getD j false) u8 u18 u19 u20 u21 u22 u23 u24 u25 u26 u27 u28 u29 u30 u31 u32 u33 u34 W) (hv : v = .pointer (some ⟨bx, 1, none⟩)) : NF f0 bx bu ou U d z r n base (fun j => (listed.setIfInBounds 0 true).getD j false) u8 v u19 u20 u21 u22 u23 u24 u25 u26 u27 u28 u29 u30 u31 u32 u33 u34 W :=
  ⟨fun _ => hv, fun k => h.p1 (getD_put (by decide) k), fun k => h.p2 (getD_put (by decide) k), fun k => h.p3 (getD_put (by decide) k), fun k => h.p4 (getD_put (by decide) k), fun k => h.p5 (getD_put (by decide) k), fun k => h.p6 (getD_put (by decide) k), fun k => h.p7 (getD_put (by decide) k), fun k => h.p8 (getD_put (by decide) k), fun k => h.p9 (getD_put (by decide) k), fun k => h.p10 (getD_put (by decide) k), fun k => h.p11 (getD_put (by decide) k), fun k => h.p12 (getD_put (by decide) k), fun k => h.p13 (getD_put (by decide) k), fun k => h.p14 (getD_put (by decide) k), fun k => h.p15 (getD_put (by decide) k), fun k => h.p16 (getD_put (by decide) k), fun k => h.p17 (getD_put (by decide) k)⟩
theorem NF.next1 {f0 : Value} {bx bu ou U d z r n base : Nat} {listed : Array Bool} {u8 u18 u19 u20 u21 u22 u23 u24 u25 u26 u27 u28 u29 u30 u31 u32 u33 u34 v : Value} {W : World} (h : NF f0 bx bu ou U d z r n base (fun j => listed.getD j false) u8 u18 u19 u20 u21 u22 u23 u24 u25 u26 u27 u28 u29 u30 u31 u32 u33 u34 W) (hv : v = .slice (some ⟨bu, ou, none⟩) U d) : NF f0 bx bu ou U d z r n base (fun j => (listed.setIfInBounds 1 true).getD j false) u8 u18 v u20 u21 u22 u23 u24 u25 u26 u27 u28 u29 u30 u31 u32 u33 u34 W :=
  ⟨fun k => h.p0 (getD_put (by decide) k), fun _ => hv, fun k => h.p2 (getD_put (by decide) k), fun k => h.p3 (getD_put (by decide) k), fun k => h.p4 (getD_put (by decide) k), fun k => h.p5 (getD_put (by decide) k), fun k => h.p6 (getD_put (by decide) k), fun k => h.p7 (getD_put (by decide) k), fun k => h.p8 (getD_put (by decide) k), fun k => h.p9 (getD_put (by decide) k), fun k => h.p10 (getD_put (by decide) k), fun k => h.p11 (getD_put (by decide) k), fun k => h.p12 (getD_put (by decide) k), fun k => h.p13 (getD_put (by decide) k), fun k => h.p14 (getD_put (by decide) k), fun k => h.p15 (getD_put (by decide) k), fun k => h.p16 (getD_put (by decide) k), fun k => h.p17 (getD_put (by decide) k)⟩
theorem NF.next2 {f0 : Value} {bx bu ou U d z r n base : Nat} {listed : Array Bool} {u8 u18 u19 u20 u21 u22 u23 u24 u25 u26 u27 u28 u29 u30 u31 u32 u33 u34 v : Value} {W : World} (h : NF f0 bx bu ou U d z r n base (fun j => listed.getD j false) u8 u18 u19 u20 u21 u22 u23 u24 u25 u26 u27 u28 u29 u30 u31 u32 u33 u34 W) (hv : v = f0) : NF f0 bx bu ou U d z r n base (fun j => (listed.setIfInBounds 2 true).getD j false) u8 u18 u19 v u21 u22 u23 u24 u25 u26 u27 u28 u29 u30 u31 u32 u33 u34 W :=
  ⟨fun k => h.p0 (getD_put (by decide) k), fun k => h.p1 (getD_put (by decide) k), fun _ => hv, fun k => h.p3 (getD_put (by decide) k), fun k => h.p4 (getD_put (by decide) k), fun k => h.p5 (getD_put (by decide) k), fun k => h.p6 (getD_put (by decide) k), fun k => h.p7 (getD_put (by decide) k), fun k => h.p8 (getD_put (by decide) k), fun k => h.p9 (getD_put (by decide) k), fun k => h.p10 (getD_put (by decide) k), fun k => h.p11 (getD_put (by decide) k), fun k => h.p12 (getD_put (by decide) k), fun k => h.p13 (getD_put (by decide) k), fun k => h.p14 (getD_put (by decide) k), fun k => h.p15 (getD_put (by decide) k), fun k => h.p16 (getD_put (by decide) k), fun k => h.p17 (getD_put (by decide) k)⟩
theorem NF.next3 {f0 : Value} {bx bu ou U d z r n base : Nat} {listed : Array Bool} {u8 u18 u19 u20 u21 u22 u23 u24 u25 u26 u27 u28 u29 u30 u31 u32 u33 u34 v : Value} {W : World} (h : NF f0 bx bu ou U d z r n base (fun j => listed.getD j false) u8 u18 u19 u20 u21 u22 u23 u24 u25 u26 u27 u28 u29 u30 u31 u32 u33 u34 W) (hv : v = .int .i64 (z : Nat)) : NF f0 bx bu ou U d z r n base (fun j => (listed.setIfInBounds 3 true).getD j false) u8 u18 u19 u20 v u22 u23 u24 u25 u26 u27 u28 u29 u30 u31 u32 u33 u34 W :=
  ⟨fun k => h.p0 (getD_put (by decide) k), fun k => h.p1 (getD_put (by decide) k), fun k => h.p2 (getD_put (by decide) k), fun _ => hv, fun k => h.p4 (getD_put (by decide) k), fun k => h.p5 (getD_put (by decide) k), fun k => h.p6 (getD_put (by decide) k), fun k => h.p7 (getD_put (by decide) k), fun k => h.p8 (getD_put (by decide) k), fun k => h.p9 (getD_put (by decide) k), fun k => h.p10 (getD_put (by decide) k), fun k => h.p11 (getD_put (by decide) k), fun k => h.p12 (getD_put (by decide) k), fun k => h.p13 (getD_put (by decide) k), fun k => h.p14 (getD_put (by decide) k), fun k => h.p15 (getD_put (by decide) k), fun k => h.p16 (getD_put (by decide) k), fun k => h.p17 (getD_put (by decide) k)⟩
theorem NF.next4 {f0 : Value} {bx bu ou U d z r n base : Nat} {listed : Array Bool} {u8 u18 u19 u20 u21 u22 u23 u24 u25 u26 u27 u28 u29 u30 u31 u32 u33 u34 v : Value} {W : World} (h : NF f0 bx bu ou U d z r n base (fun j => listed.getD j false) u8 u18 u19 u20 u21 u22 u23 u24 u25 u26 u27 u28 u29 u30 u31 u32 u33 u34 W) (hv : v = .pointer (some ⟨bu, ou + z, none⟩)) : NF f0 bx bu ou U d z r n base (fun j => (listed.setIfInBounds 4 true).getD j false) u8 u18 u19 u20 u21 v u23 u24 u25 u26 u27 u28 u29 u30 u31 u32 u33 u34 W :=
  ⟨fun k => h.p0 (getD_put (by decide) k), fun k => h.p1 (getD_put (by decide) k), fun k => h.p2 (getD_put (by decide) k), fun k => h.p3 (getD_put (by decide) k), fun _ => hv, fun k => h.p5 (getD_put (by decide) k), fun k => h.p6 (getD_put (by decide) k), fun k => h.p7 (getD_put (by decide) k), fun k => h.p8 (getD_put (by decide) k), fun k => h.p9 (getD_put (by decide) k), fun k => h.p10 (getD_put (by decide) k), fun k => h.p11 (getD_put (by decide) k), fun k => h.p12 (getD_put (by decide) k), fun k => h.p13 (getD_put (by decide) k), fun k => h.p14 (getD_put (by decide) k), fun k => h.p15 (getD_put (by decide) k), fun k => h.p16 (getD_put (by decide) k), fun k => h.p17 (getD_put (by decide) k)⟩
theorem NF.next5 {f0 : Value} {bx bu ou U d z r n base : Nat} {listed : Array Bool} {u8 u18 u19 u20 u21 u22 u23 u24 u25 u26 u27 u28 u29 u30 u31 u32 u33 u34 v : Value} {W : World} (h : NF f0 bx bu ou U d z r n base (fun j => listed.getD j false) u8 u18 u19 u20 u21 u22 u23 u24 u25 u26 u27 u28 u29 u30 u31 u32 u33 u34 W) (hv : v = .int .u64 (r : Nat)) : NF f0 bx bu ou U d z r n base (fun j => (listed.setIfInBounds 5 true).getD j false) u8 u18 u19 u20 u21 u22 v u24 u25 u26 u27 u28 u29 u30 u31 u32 u33 u34 W :=
  ⟨fun k => h.p0 (getD_put (by decide) k), fun k => h.p1 (getD_put (by decide) k), fun k => h.p2 (getD_put (by decide) k), fun k => h.p3 (getD_put (by decide) k), fun k => h.p4 (getD_put (by decide) k), fun _ => hv, fun k => h.p6 (getD_put (by decide) k), fun k => h.p7 (getD_put (by decide) k), fun k => h.p8 (getD_put (by decide) k), fun k => h.p9 (getD_put (by decide) k), fun k => h.p10 (getD_put (by decide) k), fun k => h.p11 (getD_put (by decide) k), fun k => h.p12 (getD_put (by decide) k), fun k => h.p13 (getD_put (by decide) k), fun k => h.p14 (getD_put (by decide) k), fun k => h.p15 (getD_put (by decide) k), fun k => h.p16 (getD_put (by decide) k), fun k => h.p17 (getD_put (by decide) k)⟩
theorem NF.next6 {f0 : Value} {bx bu ou U d z r n base : Nat} {listed : Array Bool} {u8 u18 u19 u20 u21 u22 u23 u24 u25 u26 u27 u28 u29 u30 u31 u32 u33 u34 v : Value} {W : World} (h : NF f0 bx bu ou U d z r n base (fun j => listed.getD j false) u8 u18 u19 u20 u21 u22 u23 u24 u25 u26 u27 u28 u29 u30 u31 u32 u33 u34 W) (hv : ∃ b, v = .slice (some ⟨b, 0, none⟩) 1 1 ∧ W.heap[b]? = some (.cells #[.int .u64 (r : Nat)] 72 (0, 0))) : NF f0 bx bu ou U d z r n base (fun j => (listed.setIfInBounds 6 true).getD j false) u8 u18 u19 u20 u21 u22 u23 v u25 u26 u27 u28 u29 u30 u31 u32 u33 u34 W :=
  ⟨fun k => h.p0 (getD_put (by decide) k), fun k => h.p1 (getD_put (by decide) k), fun k => h.p2 (getD_put (by decide) k), fun k => h.p3 (getD_put (by decide) k), fun k => h.p4 (getD_put (by decide) k), fun k => h.p5 (getD_put (by decide) k), fun _ => hv, fun k => h.p7 (getD_put (by decide) k), fun k => h.p8 (getD_put (by decide) k), fun k => h.p9 (getD_put (by decide) k), fun k => h.p10 (getD_put (by decide) k), fun k => h.p11 (getD_put (by decide) k), fun k => h.p12 (getD_put (by decide) k), fun k => h.p13 (getD_put (by decide) k), fun k => h.p14 (getD_put (by decide) k), fun k => h.p15 (getD_put (by decide) k), fun k => h.p16 (getD_put (by decide) k), fun k => h.p17 (getD_put (by decide) k)⟩
theorem NF.next7 {f0 : Value} {bx bu ou U d z r n base : Nat} {listed : Array Bool} {u8 u18 u19 u20 u21 u22 u23 u24 u25 u26 u27 u28 u29 u30 u31 u32 u33 u34 v : Value} {W : World} (h : NF f0 bx bu ou U d z r n base (fun j => listed.getD j false) u8 u18 u19 u20 u21 u22 u23 u24 u25 u26 u27 u28 u29 u30 u31 u32 u33 u34 W) (hv : v = .int .i64 (n : Nat)) : NF f0 bx bu ou U d z r n base (fun j => (listed.setIfInBounds 7 true).getD j false) u8 u18 u19 u20 u21 u22 u23 u24 v u26 u27 u28 u29 u30 u31 u32 u33 u34 W :=
  ⟨fun k => h.p0 (getD_put (by decide) k), fun k => h.p1 (getD_put (by decide) k), fun k => h.p2 (getD_put (by decide) k), fun k => h.p3 (getD_put (by decide) k), fun k => h.p4 (getD_put (by decide) k), fun k => h.p5 (getD_put (by decide) k), fun k => h.p6 (getD_put (by decide) k), fun _ => hv, fun k => h.p8 (getD_put (by decide) k), fun k => h.p9 (getD_put (by decide) k), fun k => h.p10 (getD_put (by decide) k), fun k => h.p11 (getD_put (by decide) k), fun k => h.p12 (getD_put (by decide) k), fun k => h.p13 (getD_put (by decide) k), fun k => h.p14 (getD_put (by decide) k), fun k => h.p15 (getD_put (by decide) k), fun k => h.p16 (getD_put (by decide) k), fun k => h.p17 (getD_put (by decide) k)⟩
theorem NF.next8 {f0 : Value} {bx bu ou U d z r n base : Nat} {listed : Array Bool} {u8 u18 u19 u20 u21 u22 u23 u24 u25 u26 u27 u28 u29 u30 u31 u32 u33 u34 v : Value} {W : World} (h : NF f0 bx bu ou U d z r n base (fun j => listed.getD j false) u8 u18 u19 u20 u21 u22 u23 u24 u25 u26 u27 u28 u29 u30 u31 u32 u33 u34 W) (hv : ∃ g, v = .slice (some ⟨g, 0, none⟩) n n ∧ base ≤ g ∧ W.heap[g]? = some (.cells (List.replicate n (Value.int .u64 (r : Nat))).toArray 72 (0, 0))) : NF f0 bx bu ou U d z r n base (fun j => (listed.setIfInBounds 8 true).getD j false) u8 u18 u19 u20 u21 u22 u23 u24 u25 v u27 u28 u29 u30 u31 u32 u33 u34 W :=
  ⟨fun k => h.p0 (getD_put (by decide) k), fun k => h.p1 (getD_put (by decide) k), fun k => h.p2 (getD_put (by decide) k), fun k => h.p3 (getD_put (by decide) k), fun k => h.p4 (getD_put (by decide) k), fun k => h.p5 (getD_put (by decide) k), fun k => h.p6 (getD_put (by decide) k), fun k => h.p7 (getD_put (by decide) k), fun _ => hv, fun k => h.p9 (getD_put (by decide) k), fun k => h.p10 (getD_put (by decide) k), fun k => h.p11 (getD_put (by decide) k), fun k => h.p12 (getD_put (by decide) k), fun k => h.p13 (getD_put (by decide) k), fun k => h.p14 (getD_put (by decide) k), fun k => h.p15 (getD_put (by decide) k), fun k => h.p16 (getD_put (by decide) k), fun k => h.p17 (getD_put (by decide) k)⟩
theorem NF.next9 {f0 : Value} {bx bu ou U d z r n base : Nat} {listed : Array Bool} {u8 u18 u19 u20 u21 u22 u23 u24 u25 u26 u27 u28 u29 u30 u31 u32 u33 u34 v : Value} {W : World} (h : NF f0 bx bu ou U d z r n base (fun j => listed.getD j false) u8 u18 u19 u20 u21 u22 u23 u24 u25 u26 u27 u28 u29 u30 u31 u32 u33 u34 W) (hv : v = .int .i64 (n : Nat)) : NF f0 bx bu ou U d z r n base (fun j => (listed.setIfInBounds 9 true).getD j false) u8 u18 u19 u20 u21 u22 u23 u24 u25 u26 v u28 u29 u30 u31 u32 u33 u34 W :=
  ⟨fun k => h.p0 (getD_put (by decide) k), fun k => h.p1 (getD_put (by decide) k), fun k => h.p2 (getD_put (by decide) k), fun k => h.p3 (getD_put (by decide) k), fun k => h.p4 (getD_put (by decide) k), fun k => h.p5 (getD_put (by decide) k), fun k => h.p6 (getD_put (by decide) k), fun k => h.p7 (getD_put (by decide) k), fun k => h.p8 (getD_put (by decide) k), fun _ => hv, fun k => h.p10 (getD_put (by decide) k), fun k => h.p11 (getD_put (by decide) k), fun k => h.p12 (getD_put (by decide) k), fun k => h.p13 (getD_put (by decide) k), fun k => h.p14 (getD_put (by decide) k), fun k => h.p15 (getD_put (by decide) k), fun k => h.p16 (getD_put (by decide) k), fun k => h.p17 (getD_put (by decide) k)⟩
theorem NF.next10 {f0 : Value} {bx bu ou U d z r n base : Nat} {listed : Array Bool} {u8 u18 u19 u20 u21 u22 u23 u24 u25 u26 u27 u28 u29 u30 u31 u32 u33 u34 v : Value} {W : World} (h : NF f0 bx bu ou U d z r n base (fun j => listed.getD j false) u8 u18 u19 u20 u21 u22 u23 u24 u25 u26 u27 u28 u29 u30 u31 u32 u33 u34 W) (hv : ∃ g, v = .slice (some ⟨g, 0, none⟩) n n ∧ base ≤ g ∧ W.heap[g]? = some (.cells (madeCells #[.slice none 0 0] n) 74 (0, 0))) : NF f0 bx bu ou U d z r n base (fun j => (listed.setIfInBounds 10 true).getD j false) u8 u18 u19 u20 u21 u22 u23 u24 u25 u26 u27 v u29 u30 u31 u32 u33 u34 W :=
  ⟨fun k => h.p0 (getD_put (by decide) k), fun k => h.p1 (getD_put (by decide) k), fun k => h.p2 (getD_put (by decide) k), fun k => h.p3 (getD_put (by decide) k), fun k => h.p4 (getD_put (by decide) k), fun k => h.p5 (getD_put (by decide) k), fun k => h.p6 (getD_put (by decide) k), fun k => h.p7 (getD_put (by decide) k), fun k => h.p8 (getD_put (by decide) k), fun k => h.p9 (getD_put (by decide) k), fun _ => hv, fun k => h.p11 (getD_put (by decide) k), fun k => h.p12 (getD_put (by decide) k), fun k => h.p13 (getD_put (by decide) k), fun k => h.p14 (getD_put (by decide) k), fun k => h.p15 (getD_put (by decide) k), fun k => h.p16 (getD_put (by decide) k), fun k => h.p17 (getD_put (by decide) k)⟩
theorem NF.next11 {f0 : Value} {bx bu ou U d z r n base : Nat} {listed : Array Bool} {u8 u18 u19 u20 u21 u22 u23 u24 u25 u26 u27 u28 u29 u30 u31 u32 u33 u34 v : Value} {W : World} (h : NF f0 bx bu ou U d z r n base (fun j => listed.getD j false) u8 u18 u19 u20 u21 u22 u23 u24 u25 u26 u27 u28 u29 u30 u31 u32 u33 u34 W) (hv : v = .int .i64 (n : Nat)) : NF f0 bx bu ou U d z r n base (fun j => (listed.setIfInBounds 11 true).getD j false) u8 u18 u19 u20 u21 u22 u23 u24 u25 u26 u27 u28 v u30 u31 u32 u33 u34 W :=
  ⟨fun k => h.p0 (getD_put (by decide) k), fun k => h.p1 (getD_put (by decide) k), fun k => h.p2 (getD_put (by decide) k), fun k => h.p3 (getD_put (by decide) k), fun k => h.p4 (getD_put (by decide) k), fun k => h.p5 (getD_put (by decide) k), fun k => h.p6 (getD_put (by decide) k), fun k => h.p7 (getD_put (by decide) k), fun k => h.p8 (getD_put (by decide) k), fun k => h.p9 (getD_put (by decide) k), fun k => h.p10 (getD_put (by decide) k), fun _ => hv, fun k => h.p12 (getD_put (by decide) k), fun k => h.p13 (getD_put (by decide) k), fun k => h.p14 (getD_put (by decide) k), fun k => h.p15 (getD_put (by decide) k), fun k => h.p16 (getD_put (by decide) k), fun k => h.p17 (getD_put (by decide) k)⟩
theorem NF.next12 {f0 : Value} {bx bu ou U d z r n base : Nat} {listed : Array Bool} {u8 u18 u19 u20 u21 u22 u23 u24 u25 u26 u27 u28 u29 u30 u31 u32 u33 u34 v : Value} {W : World} (h : NF f0 bx bu ou U d z r n base (fun j => listed.getD j false) u8 u18 u19 u20 u21 u22 u23 u24 u25 u26 u27 u28 u29 u30 u31 u32 u33 u34 W) (hv : ∃ g, v = .slice (some ⟨g, 0, none⟩) n n ∧ base ≤ g ∧ W.heap[g]? = some (.cells (madeCells #[.int .i64 0] n) 3 (0, 0))) : NF f0 bx bu ou U d z r n base (fun j => (listed.setIfInBounds 12 true).getD j false) u8 u18 u19 u20 u21 u22 u23 u24 u25 u26 u27 u28 u29 v u31 u32 u33 u34 W :=
  ⟨fun k => h.p0 (getD_put (by decide) k), fun k => h.p1 (getD_put (by decide) k), fun k => h.p2 (getD_put (by decide) k), fun k => h.p3 (getD_put (by decide) k), fun k => h.p4 (getD_put (by decide) k), fun k => h.p5 (getD_put (by decide) k), fun k => h.p6 (getD_put (by decide) k), fun k => h.p7 (getD_put (by decide) k), fun k => h.p8 (getD_put (by decide) k), fun k => h.p9 (getD_put (by decide) k), fun k => h.p10 (getD_put (by decide) k), fun k => h.p11 (getD_put (by decide) k), fun _ => hv, fun k => h.p13 (getD_put (by decide) k), fun k => h.p14 (getD_put (by decide) k), fun k => h.p15 (getD_put (by decide) k), fun k => h.p16 (getD_put (by decide) k), fun k => h.p17 (getD_put (by decide) k)⟩
theorem NF.next13 {f0 : Value} {bx bu ou U d z r n base : Nat} {listed : Array Bool} {u8 u18 u19 u20 u21 u22 u23 u24 u25 u26 u27 u28 u29 u30 u31 u32 u33 u34 v : Value} {W : World} (h : NF f0 bx bu ou U d z r n base (fun j => listed.getD j false) u8 u18 u19 u20 u21 u22 u23 u24 u25 u26 u27 u28 u29 u30 u31 u32 u33 u34 W) (hv : v = .int .i64 (n : Nat)) : NF f0 bx bu ou U d z r n base (fun j => (listed.setIfInBounds 13 true).getD j false) u8 u18 u19 u20 u21 u22 u23 u24 u25 u26 u27 u28 u29 u30 v u32 u33 u34 W :=
  ⟨fun k => h.p0 (getD_put (by decide) k), fun k => h.p1 (getD_put (by decide) k), fun k => h.p2 (getD_put (by decide) k), fun k => h.p3 (getD_put (by decide) k), fun k => h.p4 (getD_put (by decide) k), fun k => h.p5 (getD_put (by decide) k), fun k => h.p6 (getD_put (by decide) k), fun k => h.p7 (getD_put (by decide) k), fun k => h.p8 (getD_put (by decide) k), fun k => h.p9 (getD_put (by decide) k), fun k => h.p10 (getD_put (by decide) k), fun k => h.p11 (getD_put (by decide) k), fun k => h.p12 (getD_put (by decide) k), fun _ => hv, fun k => h.p14 (getD_put (by decide) k), fun k => h.p15 (getD_put (by decide) k), fun k => h.p16 (getD_put (by decide) k), fun k => h.p17 (getD_put (by decide) k)⟩
theorem NF.next14 {f0 : Value} {bx bu ou U d z r n base : Nat} {listed : Array Bool} {u8 u18 u19 u20 u21 u22 u23 u24 u25 u26 u27 u28 u29 u30 u31 u32 u33 u34 v : Value} {W : World} (h : NF f0 bx bu ou U d z r n base (fun j => listed.getD j false) u8 u18 u19 u20 u21 u22 u23 u24 u25 u26 u27 u28 u29 u30 u31 u32 u33 u34 W) (hv : ∃ g, v = .slice (some ⟨g, 0, none⟩) n n ∧ base ≤ g ∧ W.heap[g]? = some (.cells (madeCells #[.bool false] n) 4 (0, 0))) : NF f0 bx bu ou U d z r n base (fun j => (listed.setIfInBounds 14 true).getD j false) u8 u18 u19 u20 u21 u22 u23 u24 u25 u26 u27 u28 u29 u30 u31 v u33 u34 W :=
  ⟨fun k => h.p0 (getD_put (by decide) k), fun k => h.p1 (getD_put (by decide) k), fun k => h.p2 (getD_put (by decide) k), fun k => h.p3 (getD_put (by decide) k), fun k => h.p4 (getD_put (by decide) k), fun k => h.p5 (getD_put (by decide) k), fun k => h.p6 (getD_put (by decide) k), fun k => h.p7 (getD_put (by decide) k), fun k => h.p8 (getD_put (by decide) k), fun k => h.p9 (getD_put (by decide) k), fun k => h.p10 (getD_put (by decide) k), fun k => h.p11 (getD_put (by decide) k), fun k => h.p12 (getD_put (by decide) k), fun k => h.p13 (getD_put (by decide) k), fun _ => hv, fun k => h.p15 (getD_put (by decide) k), fun k => h.p16 (getD_put (by decide) k), fun k => h.p17 (getD_put (by decide) k)⟩
theorem NF.next15 {f0 : Value} {bx bu ou U d z r n base : Nat} {listed : Array Bool} {u8 u18 u19 u20 u21 u22 u23 u24 u25 u26 u27 u28 u29 u30 u31 u32 u33 u34 v : Value} {W : World} (h : NF f0 bx bu ou U d z r n base (fun j => listed.getD j false) u8 u18 u19 u20 u21 u22 u23 u24 u25 u26 u27 u28 u29 u30 u31 u32 u33 u34 W) (hv : ∃ g1 g2 g3 g4, v = .agg (fourV n g1 g2 g3 g4) ∧ Four W base n r g1 g2 g3 g4) : NF f0 bx bu ou U d z r n base (fun j => (listed.setIfInBounds 15 true).getD j false) u8 u18 u19 u20 u21 u22 u23 u24 u25 u26 u27 u28 u29 u30 u31 u32 v u34 W :=
  ⟨fun k => h.p0 (getD_put (by decide) k), fun k => h.p1 (getD_put (by decide) k), fun k => h.p2 (getD_put (by decide) k), fun k => h.p3 (getD_put (by decide) k), fun k => h.p4 (getD_put (by decide) k), fun k => h.p5 (getD_put (by decide) k), fun k => h.p6 (getD_put (by decide) k), fun k => h.p7 (getD_put (by decide) k), fun k => h.p8 (getD_put (by decide) k), fun k => h.p9 (getD_put (by decide) k), fun k => h.p10 (getD_put (by decide) k), fun k => h.p11 (getD_put (by decide) k), fun k => h.p12 (getD_put (by decide) k), fun k => h.p13 (getD_put (by decide) k), fun k => h.p14 (getD_put (by decide) k), fun _ => hv, fun k => h.p16 (getD_put (by decide) k), fun k => h.p17 (getD_put (by decide) k)⟩
theorem NF.next16 {f0 : Value} {bx bu ou U d z r n base : Nat} {listed : Array Bool} {u8 u18 u19 u20 u21 u22 u23 u24 u25 u26 u27 u28 u29 u30 u31 u32 u33 u34 v : Value} {W : World} (h : NF f0 bx bu ou U d z r n base (fun j => listed.getD j false) u8 u18 u19 u20 u21 u22 u23 u24 u25 u26 u27 u28 u29 u30 u31 u32 u33 u34 W) (hv : ∃ q g1 g2 g3 g4, v = .pointer (some ⟨q, 0, none⟩) ∧ base ≤ q ∧ W.heap[q]? = some (.cells (fourV n g1 g2 g3 g4) 77 (0, 0)) ∧ Four W base n r g1 g2 g3 g4) : NF f0 bx bu ou U d z r n base (fun j => (listed.setIfInBounds 16 true).getD j false) u8 u18 u19 u20 u21 u22 u23 u24 u25 u26 u27 u28 u29 u30 u31 u32 u33 v W :=
  ⟨fun k => h.p0 (getD_put (by decide) k), fun k => h.p1 (getD_put (by decide) k), fun k => h.p2 (getD_put (by decide) k), fun k => h.p3 (getD_put (by decide) k), fun k => h.p4 (getD_put (by decide) k), fun k => h.p5 (getD_put (by decide) k), fun k => h.p6 (getD_put (by decide) k), fun k => h.p7 (getD_put (by decide) k), fun k => h.p8 (getD_put (by decide) k), fun k => h.p9 (getD_put (by decide) k), fun k => h.p10 (getD_put (by decide) k), fun k => h.p11 (getD_put (by decide) k), fun k => h.p12 (getD_put (by decide) k), fun k => h.p13 (getD_put (by decide) k), fun k => h.p14 (getD_put (by decide) k), fun k => h.p15 (getD_put (by decide) k), fun _ => hv, fun k => h.p17 (getD_put (by decide) k)⟩
theorem NF.next17 {f0 : Value} {bx bu ou U d z r n base : Nat} {listed : Array Bool} {u8 u18 u19 u20 u21 u22 u23 u24 u25 u26 u27 u28 u29 u30 u31 u32 u33 u34 v : Value} {W : World} (h : NF f0 bx bu ou U d z r n base (fun j => listed.getD j false) u8 u18 u19 u20 u21 u22 u23 u24 u25 u26 u27 u28 u29 u30 u31 u32 u33 u34 W) (hv : ∃ q g1 g2 g3 g4, v = .pointer (some ⟨q, 0, none⟩) ∧ base ≤ q ∧ W.heap[q]? = some (.cells (fourV n g1 g2 g3 g4) 77 (0, 0)) ∧ Four W base n r g1 g2 g3 g4) : NF f0 bx bu ou U d z r n base (fun j => (listed.setIfInBounds 17 true).getD j false) v u18 u19 u20 u21 u22 u23 u24 u25 u26 u27 u28 u29 u30 u31 u32 u33 u34 W :=
  ⟨fun k => h.p0 (getD_put (by decide) k), fun k => h.p1 (getD_put (by decide) k), fun k => h.p2 (getD_put (by decide) k), fun k => h.p3 (getD_put (by decide) k), fun k => h.p4 (getD_put (by decide) k), fun k => h.p5 (getD_put (by decide) k), fun k => h.p6 (getD_put (by decide) k), fun k => h.p7 (getD_put (by decide) k), fun k => h.p8 (getD_put (by decide) k), fun k => h.p9 (getD_put (by decide) k), fun k => h.p10 (getD_put (by decide) k), fun k => h.p11 (getD_put (by decide) k), fun k => h.p12 (getD_put (by decide) k), fun k => h.p13 (getD_put (by decide) k), fun k => h.p14 (getD_put (by decide) k), fun k => h.p15 (getD_put (by decide) k), fun k => h.p16 (getD_put (by decide) k), fun _ => hv⟩
end Go.Proofs.YtlhfdedjboanfaaDoor

namespace Go.Proofs.YtlhfdedjboanfaaDoor
open Go.RowKit Go.Shelf Go.At Go.Sv
attribute [local go_sem] Oper.semAt_some

theorem info_ints : (Tryd.prog.info? 74).map (fun i => (i.zero, i.size, i.bytes)) = some (some (.slice none 0 0), 1, 24) := by kernel_rfl
theorem info_bool : (Tryd.prog.info? 4).map (fun i => (i.zero, i.size, i.bytes)) = some (some (.bool false), 1, 1) := by kernel_rfl
set_option maxRecDepth 100000 in
set_option maxHeartbeats 60000000 in
theorem newRise_any (A B : Option Addr) (ns : List ByteArray) (us : List Nat) (c d : Nat) (J M : Nat → Nat → Nat) (z t : Nat) (V : Option Addr) (cv : Nat) (C : Option Addr) (l : List Pr) (cc : Nat) (w : World) (hE : L.Env w) (hL : L.LatAt w A B c ns us) (hTo : L.Told ns us J M z t)
    (hV : Nms w V (varsL l)) (hP : Prs w C l) (h6 : ∀ p ∈ l, I64 p.1 ∧ I64 p.2) (hk : knownT ns us l = true) (hl : l.length ≤ 1048576) :
    Calls Tryd.prog 31 #[.agg #[.slice A ns.length c, .slice B us.length d], .slice V (varsL l).length cv, .slice C l.length cc] w fun e w' => (∃ base q va s, w.heap.size ≤ base ∧ e = .returned (.pointer (some ⟨q, 0, none⟩)) ∧ RiseAt w' base q (varsL l).length va s ∧ Inv us.length (Lt.row us) (varsL l).length (EdgeOf l) (PtOf l) s ∧ (∀ a b, EdgeOf l a b → b ∈ s.O a) ∧ (∀ q b, PtOf l q b → Sub (s.R b) (Lt.row us q))) ∧ Below w.heap.size w w' := by
  have hvl : (varsL l).length ≤ 2097152 := by
    have h1 := ord_len (lt := ltI) ((atomsL l).flatMap pickV)
    have h2 := pick_len pickV_len (atomsL l)
    rw [atoms_len] at h2
    unfold varsL
    omega
  have hb0 := later_alloc w (.cells #[.slice A ns.length c, .slice B us.length d] 25)
  have hx0 := World.alloc_heap_new w (.cells #[.slice A ns.length c, .slice B us.length d] 25)
  obtain ⟨W0, hW0⟩ : ∃ W, w.alloc (.cells #[.slice A ns.length c, .slice B us.length d] 25) = W := ⟨_, rfl⟩
  rw [hW0] at hb0 hx0
  have z1 : W0.heap.size = w.heap.size + 1 := by rw [← hW0, World.size_alloc]
  have hzl := told_z hTo
  have hr64 := hL.w64 z
  have b0 : W0.cell? ⟨w.heap.size, 0, none⟩ = some (.slice A ns.length c) := cell_of_row _ _ 0 _ _ _ hx0
  have b1 : W0.cell? ⟨w.heap.size, 1, none⟩ = some (.slice B us.length d) := cell_of_row _ _ 1 _ _ _ hx0
  obtain ⟨bu, ou, hBu, hbu, hcu⟩ := (hL.later hb0).words (by intro e; subst e; simp at hzl)
  subst hBu
  have u0 := hcu z hzl
  have kbt := Lib.hid (fun (W : World) (h : Below W0.heap.size W0 W) => (L.bottom_any A (some ⟨bu, ou, none⟩) ns us c d W ((hE.later hb0).later h) ((hL.later hb0).later h)).mono fun e w' ⟨he, hb⟩ => (And.intro he (And.intro hb (h.trans (hb.mono h.size))) : e = Ending.returned (.int .i64 (L.bottomI ns us)) ∧ Below W.heap.size W w' ∧ Below W0.heap.size W0 w'))
  rw [hTo.bottom] at kbt
  have kb := Lib.hid (fun (W : World) (h : Below W0.heap.size W0 W) => And.intro ((h.cell (p := ⟨w.heap.size, 0, none⟩) (by show w.heap.size < _; omega)).trans b0) (And.intro ((h.cell (p := ⟨w.heap.size, 1, none⟩) (by show w.heap.size < _; omega)).trans b1) ((h.cell (p := ⟨bu, ou + z, none⟩) hbu).trans u0)))
  have kPr := Lib.hid (fun (W : World) (h : Below W0.heap.size W0 W) => (hP.later hb0).later h)
  have kVr := Lib.hid (fun (W : World) (h : Below W0.heap.size W0 W) => (hV.later hb0).later h)
  have kWd := Lib.hid (fun (W : World) (h : Below W0.heap.size W0 W) => ((hL.later hb0).later h).words)
  have hkp := Lib.hid (known_parts hk).2
  obtain ⟨r, hr⟩ : ∃ r, Lt.row us z = r := ⟨_, rfl⟩
  rw [hr] at u0 kb hr64
  obtain ⟨n, hn⟩ : ∃ n, (varsL l).length = n := ⟨_, rfl⟩
  obtain ⟨N, hN⟩ : ∃ N, ns.length = N := ⟨_, rfl⟩
  obtain ⟨U, hU⟩ : ∃ U, us.length = U := ⟨_, rfl⟩
  obtain ⟨Q, hQ⟩ : ∃ Q, l.length = Q := ⟨_, rfl⟩
  have krp := Lib.hid (fun (W : World) (b : Nat) (h : Below W0.heap.size W0 W) (h1 : W.cell? ⟨b, 0, none⟩ = some (.int .u64 (r : Nat))) => (repeat_any b r (varsL l).length (by omega) W h1).mono fun e w' ⟨⟨g, he, hg, hx⟩, hb⟩ =>
    (And.intro ⟨g, he, Nat.le_trans h.size hg, hx⟩ (And.intro hb (h.trans (hb.mono h.size))) : (∃ g, e = Ending.returned (.slice (some ⟨g, 0, none⟩) (varsL l).length (varsL l).length) ∧ W0.heap.size ≤ g ∧ w'.heap[g]? = some (Obj.cells (List.replicate (varsL l).length (Value.int .u64 (r : Nat))).toArray 72 (0, 0))) ∧ Below W.heap.size W w' ∧ Below W0.heap.size W0 w'))
  rw [hn] at hvl krp
  rw [hN] at b0 kb kbt hW0
  rw [hU] at b1 kb kbt hW0 hzl
  rw [hn, hN, hU, hQ]
  rw [hQ] at hl
  have hmO := fun w => run_make_row' (P := Tryd.prog) 73 74 (.slice none 0 0) 24 Tryd.underlying73 info_ints rfl .i64 .i64 n (by omega) (by omega) w
  have hmS := fun w => run_make_row' (P := Tryd.prog) 74 3 (.int .i64 0) 8 Tryd.underlying74 info_int rfl .i64 .i64 n (by omega) (by omega) w
  have hmG := fun w => run_make_row' (P := Tryd.prog) 75 4 (.bool false) 1 Tryd.underlying75 info_bool rfl .i64 .i64 n (by omega) (by omega) w
  replace hb0 := Lib.hid hb0
  replace hx0 := Lib.hid hx0
  replace z1 := Lib.hid z1
  replace hE := Lib.hid hE
  replace hL := Lib.hid hL
  have kI := Lib.hid (fun a W => (isPoint_any a W).mono fun e w' h => (And.intro h.1 h.2.symm : _ ∧ W = w'))
  have kPo := Lib.hid (fun a (ha : I64 a) W => (pointOf_any a W ha).mono fun e w' h => (And.intro h.1 h.2.symm : _ ∧ W = w'))
  obtain ⟨i0, hi, hi2⟩ := Option.map_eq_some_iff.1 info_int
  obtain ⟨hz0, hz1, hz2⟩ : i0.zero = some (.int .i64 0) ∧ i0.size = 1 ∧ i0.bytes = 8 := by
    injection hi2 with h1 h2; injection h2 with h2 h3; exact ⟨h1, h2, h3⟩
  replace hi := Lib.hid hi
  replace hz0 := Lib.hid hz0
  replace hz1 := Lib.hid hz1
  replace hz2 := Lib.hid hz2
  clear hi2
  replace hV := Lib.hid hV
  replace hP := Lib.hid hP
  replace h6 := Lib.hid h6
  replace hTo := Lib.hid hTo
  replace hn := Lib.hid hn
  replace hN := Lib.hid hN
  replace hU := Lib.hid hU
  replace hQ := Lib.hid hQ
  replace hr := Lib.hid hr
  replace hk := Lib.hid hk
  replace hr64 := Lib.hid hr64
  replace hcu := Lib.hid hcu
  have hBd := Lib.hid ((Below.refl W0.heap.size W0).drew)
  have hS0 := Lib.hid (kb.out _ hBd.out)
  have hkeep := Lib.hid (fun (W : World) (h : Below W0.heap.size W0 W) => kb.out W h)
  go_enter Tryd.func31, Tryd.ntmps31
  go_upto_region 2 with fail
  go_cut [8] from 18 to 34 (fun v8 W => ∃ q va, v8 = .pointer (some ⟨q, 0, none⟩) ∧ Hid (RiseAt W W0.heap.size q n va (Go.Sv.begun r)) ∧ Hid (Below W0.heap.size W0 W))
  case first =>
    refine wp_region_inv (by kernel_rfl) (NI (.agg #[.slice A N c, .slice (some ⟨bu, ou, none⟩) U d]) (.slice V n cv) (.slice C Q cc) (.pointer (some ⟨w.heap.size, 0, none⟩)) (.int .i64 (n : Nat)) w.heap.size bu ou U d z r n W0.heap.size W0) ?start ?step ?fin
    case start => exact ⟨rfl, hBd.out, _, _, _, _, _, _, _, _, _, _, _, _, _, _, _, _, _, _, rfl, ⟨fun k => (rep_no k).elim, fun k => (rep_no k).elim, fun k => (rep_no k).elim, fun k => (rep_no k).elim, fun k => (rep_no k).elim, fun k => (rep_no k).elim, fun k => (rep_no k).elim, fun k => (rep_no k).elim, fun k => (rep_no k).elim, fun k => (rep_no k).elim, fun k => (rep_no k).elim, fun k => (rep_no k).elim, fun k => (rep_no k).elim, fun k => (rep_no k).elim, fun k => (rep_no k).elim, fun k => (rep_no k).elim, fun k => (rep_no k).elim, fun k => (rep_no k).elim⟩⟩
    case step =>
      rintro listed a W ⟨hsz, hbW, u8, u18, u19, u20, u21, u22, u23, u24, u25, u26, u27, u28, u29, u30, u31, u32, u33, u34, rfl, hF⟩ i hi
      obtain ⟨-, o, ho, hall⟩ := mem_ready.1 hi
      have hlt : i < 18 := by
        rcases Nat.lt_or_ge i 18 with h' | h'
        · exact h'
        · rw [Array.getElem?_eq_none h'] at ho; cases ho
      clear hi
      obtain ⟨b0, b1, u0⟩ := kb.out W hbW.out
      rcases (show i = 0 ∨ i = 1 ∨ i = 2 ∨ i = 3 ∨ i = 4 ∨ i = 5 ∨ i = 6 ∨ i = 7 ∨ i = 8 ∨ i = 9 ∨ i = 10 ∨ i = 11 ∨ i = 12 ∨ i = 13 ∨ i = 14 ∨ i = 15 ∨ i = 16 ∨ i = 17 by omega) with rfl | rfl | rfl | rfl | rfl | rfl | rfl | rfl | rfl | rfl | rfl | rfl | rfl | rfl | rfl | rfl | rfl | rfl
      · obtain rfl := Option.some.inj ((show _ = some ({ dst := some 18, op := Op.fieldAddr 25 (Operand.tmp 3) 1, type := 0, pos := "rise.go:22", after := #[], guard := none } : Oper) from rfl).symm.trans ho)
        clear b0 b1 u0
        refine wpOp_step ho (fun K9 hK => ?_)
        clear ho hall
        replace hK := Lib.hid hK
        replace hF := Lib.hid hF.out
        unfold mkF
        go_simp
        exact hK.out _ _ ⟨by rw [Array.size_setIfInBounds]; exact hsz, hbW.out, _, _, _, _, _, _, _, _, _, _, _, _, _, _, _, _, _, _, rfl, hF.out.next0 rfl⟩
      · obtain rfl := Option.some.inj ((show _ = some ({ dst := some 19, op := Op.load 23 (Operand.tmp 18), type := 23, pos := "rise.go:22", after := #[{ on := 0, ground := Ground.data }], guard := none } : Oper) from rfl).symm.trans ho)
        have e0 := hF.out.p0 (hall ⟨0, .data⟩ (by simp) rfl); subst e0
        refine wpOp_step ho (fun K9 hK => ?_)
        clear ho hall
        replace hK := Lib.hid hK
        replace hF := Lib.hid hF.out
        unfold mkF
        go_simp
        exact hK.out _ _ ⟨by rw [Array.size_setIfInBounds]; exact hsz, hbW.out, _, _, _, _, _, _, _, _, _, _, _, _, _, _, _, _, _, _, rfl, hF.out.next1 rfl⟩
      · obtain rfl := Option.some.inj ((show _ = some ({ dst := some 20, op := Op.load 25 (Operand.tmp 3), type := 25, pos := "rise.go:22", after := #[], guard := none } : Oper) from rfl).symm.trans ho)
        refine wpOp_step ho (fun K9 hK => ?_)
        clear ho hall
        replace hK := Lib.hid hK
        replace hF := Lib.hid hF.out
        unfold mkF
        go_simp
        exact hK.out _ _ ⟨by rw [Array.size_setIfInBounds]; exact hsz, hbW.out, _, _, _, _, _, _, _, _, _, _, _, _, _, _, _, _, _, _, rfl, hF.out.next2 rfl⟩
      · obtain rfl := Option.some.inj ((show _ = some ({ dst := some 21, op := Op.call { callee := Callee.value (Operand.func 28), args := #[Operand.tmp 20], argTypes := #[25] }, type := 3, pos := "rise.go:22", after := #[{ on := 2, ground := Ground.data }], guard := none } : Oper) from rfl).symm.trans ho)
        have e2 := hF.out.p2 (hall ⟨2, .data⟩ (by simp) rfl); subst e2
        clear b0 b1 u0
        refine wpOp_step ho (fun K9 hK => ?_)
        clear ho hall
        replace hK := Lib.hid hK
        replace hF := Lib.hid hF.out
        unfold mkF
        go_simp
        go_at_call 28
        refine (kbt.out _ hbW.out).mono ?_
        rintro e w7 ⟨rfl, hb7, hc7⟩
        replace hb7 := Lib.hid hb7
        replace hc7 := Lib.hid hc7
        go_wp2_with fail
        exact hK.out _ _ ⟨by rw [Array.size_setIfInBounds]; exact hsz, hc7.out, _, _, _, _, _, _, _, _, _, _, _, _, _, _, _, _, _, _, rfl, (hF.out.later hb7.out).next3 rfl⟩
      · obtain rfl := Option.some.inj ((show _ = some ({ dst := some 22, op := Op.indexAddr 23 (Operand.tmp 19) (Operand.tmp 21), type := 0, pos := "rise.go:22", after := #[{ on := 1, ground := Ground.data }, { on := 3, ground := Ground.data }], guard := none } : Oper) from rfl).symm.trans ho)
        have e1 := hF.out.p1 (hall ⟨1, .data⟩ (by simp) rfl); subst e1
        have e3 := hF.out.p3 (hall ⟨3, .data⟩ (by simp) rfl); subst e3
        clear b0 b1 u0
        refine wpOp_step ho (fun K9 hK => ?_)
        clear ho hall
        replace hK := Lib.hid hK
        replace hF := Lib.hid hF.out
        unfold mkF
        go_simp
        exact hK.out _ _ ⟨by rw [Array.size_setIfInBounds]; exact hsz, hbW.out, _, _, _, _, _, _, _, _, _, _, _, _, _, _, _, _, _, _, rfl, hF.out.next4 rfl⟩
      · obtain rfl := Option.some.inj ((show _ = some ({ dst := some 23, op := Op.load 72 (Operand.tmp 22), type := 72, pos := "rise.go:22", after := #[{ on := 4, ground := Ground.data }], guard := none } : Oper) from rfl).symm.trans ho)
        have e4 := hF.out.p4 (hall ⟨4, .data⟩ (by simp) rfl); subst e4
        refine wpOp_step ho (fun K9 hK => ?_)
        clear ho hall
        replace hK := Lib.hid hK
        replace hF := Lib.hid hF.out
        unfold mkF
        go_simp
        exact hK.out _ _ ⟨by rw [Array.size_setIfInBounds]; exact hsz, hbW.out, _, _, _, _, _, _, _, _, _, _, _, _, _, _, _, _, _, _, rfl, hF.out.next5 rfl⟩
      · obtain rfl := Option.some.inj ((show _ = some ({ dst := some 24, op := Op.buildSlice 23 1 #[(0, Operand.tmp 23)], type := 23, pos := "rise.go:22", after := #[{ on := 5, ground := Ground.data }], guard := none } : Oper) from rfl).symm.trans ho)
        have e5 := hF.out.p5 (hall ⟨5, .data⟩ (by simp) rfl); subst e5
        clear b0 b1 u0
        refine wpOp_step ho (fun K9 hK => ?_)
        clear ho hall
        replace hK := Lib.hid hK
        replace hF := Lib.hid hF.out
        unfold mkF
        go_simp
        exact hK.out _ _ ⟨by rw [Array.size_setIfInBounds]; exact hsz, below_al hbW.out _, _, _, _, _, _, _, _, _, _, _, _, _, _, _, _, _, _, _, rfl, (hF.out.later (later_alloc W _)).next6 ⟨W.heap.size, rfl, World.alloc_heap_new W _⟩⟩
      · obtain rfl := Option.some.inj ((show _ = some ({ dst := some 25, op := Op.move (Operand.tmp 7), type := 3, pos := "rise.go:22", after := #[], guard := none } : Oper) from rfl).symm.trans ho)
        clear b0 b1 u0
        refine wpOp_step ho (fun K9 hK => ?_)
        clear ho hall
        replace hK := Lib.hid hK
        replace hF := Lib.hid hF.out
        unfold mkF
        go_simp
        exact hK.out _ _ ⟨by rw [Array.size_setIfInBounds]; exact hsz, hbW.out, _, _, _, _, _, _, _, _, _, _, _, _, _, _, _, _, _, _, rfl, hF.out.next7 rfl⟩
      · obtain rfl := Option.some.inj ((show _ = some ({ dst := some 26, op := Op.call { callee := Callee.value (Operand.func 57), args := #[Operand.tmp 24, Operand.tmp 25], argTypes := #[23, 3] }, type := 23, pos := "rise.go:22", after := #[{ on := 6, ground := Ground.data }, { on := 7, ground := Ground.data }, { on := 3, ground := Ground.chain }], guard := none } : Oper) from rfl).symm.trans ho)
        obtain ⟨b, e6, hb6⟩ := hF.out.p6 (hall ⟨6, .data⟩ (by simp) rfl); subst e6
        have e7 := hF.out.p7 (hall ⟨7, .data⟩ (by simp) rfl); subst e7
        have hb6h := Lib.hid hb6
        clear hb6
        clear b0 b1 u0
        refine wpOp_step ho (fun K9 hK => ?_)
        clear ho hall
        replace hK := Lib.hid hK
        replace hF := Lib.hid hF.out
        unfold mkF
        go_simp
        go_at_call 57
        refine (krp.out _ b hbW.out (cell_one (e := 72) hb6h.out)).mono ?_
        rintro e w8 ⟨⟨g, rfl, hg1, hg2⟩, hb8, hc8⟩
        replace hb8 := Lib.hid hb8
        replace hc8 := Lib.hid hc8
        replace hg1 := Lib.hid hg1
        replace hg2 := Lib.hid hg2
        go_wp2_with fail
        exact hK.out _ _ ⟨by rw [Array.size_setIfInBounds]; exact hsz, hc8.out, _, _, _, _, _, _, _, _, _, _, _, _, _, _, _, _, _, _, rfl, (hF.out.later hb8.out).next8 ⟨g, rfl, hg1.out, hg2.out⟩⟩
      · obtain rfl := Option.some.inj ((show _ = some ({ dst := some 27, op := Op.move (Operand.tmp 7), type := 3, pos := "rise.go:22", after := #[], guard := none } : Oper) from rfl).symm.trans ho)
        clear b0 b1 u0
        refine wpOp_step ho (fun K9 hK => ?_)
        clear ho hall
        replace hK := Lib.hid hK
        replace hF := Lib.hid hF.out
        unfold mkF
        go_simp
        exact hK.out _ _ ⟨by rw [Array.size_setIfInBounds]; exact hsz, hbW.out, _, _, _, _, _, _, _, _, _, _, _, _, _, _, _, _, _, _, rfl, hF.out.next9 rfl⟩
      · obtain rfl := Option.some.inj ((show _ = some ({ dst := some 28, op := Op.makeSlice 73 (Operand.tmp 27) (Operand.tmp 27), type := 73, pos := "rise.go:22", after := #[{ on := 9, ground := Ground.data }, { on := 9, ground := Ground.data }], guard := none } : Oper) from rfl).symm.trans ho)
        have e9 := hF.out.p9 (hall ⟨9, .data⟩ (by simp) rfl); subst e9
        clear b0 b1 u0
        refine wpOp_step ho (fun K9 hK => ?_)
        clear ho hall
        replace hK := Lib.hid hK
        replace hF := Lib.hid hF.out
        unfold mkF
        go_simp
        exact hK.out _ _ ⟨by rw [Array.size_setIfInBounds]; exact hsz, below_al hbW.out _, _, _, _, _, _, _, _, _, _, _, _, _, _, _, _, _, _, _, rfl, (hF.out.later (later_alloc W _)).next10 ⟨W.heap.size, rfl, hbW.out.size, World.alloc_heap_new W _⟩⟩
      · obtain rfl := Option.some.inj ((show _ = some ({ dst := some 29, op := Op.move (Operand.tmp 7), type := 3, pos := "rise.go:22", after := #[], guard := none } : Oper) from rfl).symm.trans ho)
        clear b0 b1 u0
        refine wpOp_step ho (fun K9 hK => ?_)
        clear ho hall
        replace hK := Lib.hid hK
        replace hF := Lib.hid hF.out
        unfold mkF
        go_simp
        exact hK.out _ _ ⟨by rw [Array.size_setIfInBounds]; exact hsz, hbW.out, _, _, _, _, _, _, _, _, _, _, _, _, _, _, _, _, _, _, rfl, hF.out.next11 rfl⟩
      · obtain rfl := Option.some.inj ((show _ = some ({ dst := some 30, op := Op.makeSlice 74 (Operand.tmp 29) (Operand.tmp 29), type := 74, pos := "rise.go:22", after := #[{ on := 11, ground := Ground.data }, { on := 11, ground := Ground.data }], guard := none } : Oper) from rfl).symm.trans ho)
        have e11 := hF.out.p11 (hall ⟨11, .data⟩ (by simp) rfl); subst e11
        clear b0 b1 u0
        refine wpOp_step ho (fun K9 hK => ?_)
        clear ho hall
        replace hK := Lib.hid hK
        replace hF := Lib.hid hF.out
        unfold mkF
        go_simp
        exact hK.out _ _ ⟨by rw [Array.size_setIfInBounds]; exact hsz, below_al hbW.out _, _, _, _, _, _, _, _, _, _, _, _, _, _, _, _, _, _, _, rfl, (hF.out.later (later_alloc W _)).next12 ⟨W.heap.size, rfl, hbW.out.size, World.alloc_heap_new W _⟩⟩
      · obtain rfl := Option.some.inj ((show _ = some ({ dst := some 31, op := Op.move (Operand.tmp 7), type := 3, pos := "rise.go:22", after := #[], guard := none } : Oper) from rfl).symm.trans ho)
        clear b0 b1 u0
        refine wpOp_step ho (fun K9 hK => ?_)
        clear ho hall
        replace hK := Lib.hid hK
        replace hF := Lib.hid hF.out
        unfold mkF
        go_simp
        exact hK.out _ _ ⟨by rw [Array.size_setIfInBounds]; exact hsz, hbW.out, _, _, _, _, _, _, _, _, _, _, _, _, _, _, _, _, _, _, rfl, hF.out.next13 rfl⟩
      · obtain rfl := Option.some.inj ((show _ = some ({ dst := some 32, op := Op.makeSlice 75 (Operand.tmp 31) (Operand.tmp 31), type := 75, pos := "rise.go:22", after := #[{ on := 13, ground := Ground.data }, { on := 13, ground := Ground.data }], guard := none } : Oper) from rfl).symm.trans ho)
        have e13 := hF.out.p13 (hall ⟨13, .data⟩ (by simp) rfl); subst e13
        clear b0 b1 u0
        refine wpOp_step ho (fun K9 hK => ?_)
        clear ho hall
        replace hK := Lib.hid hK
        replace hF := Lib.hid hF.out
        unfold mkF
        go_simp
        exact hK.out _ _ ⟨by rw [Array.size_setIfInBounds]; exact hsz, below_al hbW.out _, _, _, _, _, _, _, _, _, _, _, _, _, _, _, _, _, _, _, rfl, (hF.out.later (later_alloc W _)).next14 ⟨W.heap.size, rfl, hbW.out.size, World.alloc_heap_new W _⟩⟩
      · obtain rfl := Option.some.inj ((show _ = some ({ dst := some 33, op := Op.build 77 #[(0, Operand.tmp 26), (1, Operand.tmp 28), (2, Operand.tmp 30), (4, Operand.tmp 32)], type := 77, pos := "rise.go:22", after := #[{ on := 8, ground := Ground.data }, { on := 10, ground := Ground.data }, { on := 12, ground := Ground.data }, { on := 14, ground := Ground.data }], guard := none } : Oper) from rfl).symm.trans ho)
        obtain ⟨g1, e8, x8, y8⟩ := hF.out.p8 (hall ⟨8, .data⟩ (by simp) rfl); subst e8
        obtain ⟨g2, e10, x10, y10⟩ := hF.out.p10 (hall ⟨10, .data⟩ (by simp) rfl); subst e10
        obtain ⟨g3, e12, x12, y12⟩ := hF.out.p12 (hall ⟨12, .data⟩ (by simp) rfl); subst e12
        obtain ⟨g4, e14, x14, y14⟩ := hF.out.p14 (hall ⟨14, .data⟩ (by simp) rfl); subst e14
        have h4 : Hid (Four W W0.heap.size n r g1 g2 g3 g4) := ⟨⟨x8, y8⟩, ⟨x10, y10⟩, ⟨x12, y12⟩, ⟨x14, y14⟩⟩
        clear x8 y8 x10 y10 x12 y12 x14 y14
        clear b0 b1 u0
        refine wpOp_step ho (fun K9 hK => ?_)
        clear ho hall
        replace hK := Lib.hid hK
        replace hF := Lib.hid hF.out
        unfold mkF
        go_simp
        exact hK.out _ _ ⟨by rw [Array.size_setIfInBounds]; exact hsz, hbW.out, _, _, _, _, _, _, _, _, _, _, _, _, _, _, _, _, _, _, rfl, hF.out.next15 ⟨g1, g2, g3, g4, rfl, h4.out⟩⟩
      · obtain rfl := Option.some.inj ((show _ = some ({ dst := some 34, op := Op.box 77 (Operand.tmp 33), type := 69, pos := "rise.go:22", after := #[{ on := 15, ground := Ground.data }], guard := none } : Oper) from rfl).symm.trans ho)
        obtain ⟨g1, g2, g3, g4, e15, h4'⟩ := hF.out.p15 (hall ⟨15, .data⟩ (by simp) rfl)
        have e15 : u33 = .agg #[.slice (some ⟨g1, 0, none⟩) n n, .slice (some ⟨g2, 0, none⟩) n n, .slice (some ⟨g3, 0, none⟩) n n, .slice none 0 0, .slice (some ⟨g4, 0, none⟩) n n] := e15
        subst e15
        have h4 := Lib.hid h4'
        clear h4'
        clear b0 b1 u0
        refine wpOp_step ho (fun K9 hK => ?_)
        clear ho hall
        replace hK := Lib.hid hK
        replace hF := Lib.hid hF.out
        unfold mkF
        go_simp
        exact hK.out _ _ ⟨by rw [Array.size_setIfInBounds]; exact hsz, below_al hbW.out _, _, _, _, _, _, _, _, _, _, _, _, _, _, _, _, _, _, _, rfl, (hF.out.later (later_alloc W _)).next16 ⟨W.heap.size, g1, g2, g3, g4, rfl, hbW.out.size, World.alloc_heap_new W _, h4.out.later (later_alloc W _)⟩⟩
      · obtain rfl := Option.some.inj ((show _ = some ({ dst := some 8, op := Op.assign (Operand.tmp 34), type := 69, pos := "rise.go:22", after := #[{ on := 16, ground := Ground.data }, { on := 8, ground := Ground.chain }, { on := 0, ground := Ground.phase }, { on := 1, ground := Ground.phase }, { on := 2, ground := Ground.phase }, { on := 3, ground := Ground.phase }, { on := 4, ground := Ground.phase }, { on := 5, ground := Ground.phase }, { on := 6, ground := Ground.phase }, { on := 7, ground := Ground.phase }, { on := 8, ground := Ground.phase }, { on := 9, ground := Ground.phase }, { on := 10, ground := Ground.phase }, { on := 11, ground := Ground.phase }, { on := 12, ground := Ground.phase }, { on := 13, ground := Ground.phase }, { on := 14, ground := Ground.phase }, { on := 15, ground := Ground.phase }, { on := 16, ground := Ground.phase }], guard := none } : Oper) from rfl).symm.trans ho)
        obtain ⟨q, g1, g2, g3, g4, e16, hq1, hq2, h4'⟩ := hF.out.p16 (hall ⟨16, .data⟩ (by simp) rfl); subst e16
        have h4 := Lib.hid (And.intro hq1 (And.intro hq2 h4'))
        clear hq1 hq2 h4'
        clear b0 b1 u0
        refine wpOp_step ho (fun K9 hK => ?_)
        clear ho hall
        replace hK := Lib.hid hK
        replace hF := Lib.hid hF.out
        unfold mkF
        go_simp
        exact hK.out _ _ ⟨by rw [Array.size_setIfInBounds]; exact hsz, hbW.out, _, _, _, _, _, _, _, _, _, _, _, _, _, _, _, _, _, _, rfl, hF.out.next17 ⟨q, g1, g2, g3, g4, rfl, h4.out⟩⟩
    case fin =>
      rintro listed a W ⟨hsz, hbW, u8, u18, u19, u20, u21, u22, u23, u24, u25, u26, u27, u28, u29, u30, u31, u32, u33, u34, rfl, hF⟩ hr
      obtain ⟨q, g1, g2, g3, g4, e17, hq1, hq2, h4⟩ := hF.out.p17 (listed_all hr hsz (by kernel_rfl) 18 17 (by decide) (by show 17 < 18; decide))
      subst e17
      have hR := Lib.hid (rise_new' hq2 h4.1.2 h4.2.1.2 h4.2.2.1.2 h4.2.2.2.2 h4.1.1 h4.2.1.1 h4.2.2.1.1 h4.2.2.2.1 hq1 (by unfold maxLen; omega) hr64.out)
      clear hr hq1 hq2 h4 hF
      unfold mkF
      go_wp2_with fail
      go_meet
      · apply Exists.intro
        apply Exists.intro
        exact ⟨rfl, hR.out, hbW.out⟩
  case rest =>
    obtain ⟨q, va, rfl, hR0, hB0⟩ := hcut
    have hmm := run_makeMapN
    obtain ⟨mb, hmb⟩ : ∃ m, wc.heap.size = m := ⟨_, rfl⟩
    obtain ⟨Wm, hWm⟩ : ∃ W, wc.alloc (.map #[] 0) = W := ⟨_, rfl⟩
    have hmap0 := IMap.new wc
    have hbm := later_alloc wc (.map #[] 0)
    rw [hWm] at hmap0 hbm
    rw [hmb] at hmap0
    have hR1 := Lib.hid (hR0.out.later hbm)
    have hB1 := Lib.hid (hB0.out.trans (hbm.mono hB0.out.size))
    have hmw : ∀ x, (Instr.makeMap 98 (some (.int .i64 x))).run Tryd.prog wc = .ok (.map (some mb)) Wm := fun x => by rw [hmm, hmb, hWm]
    have hmlo : W0.heap.size ≤ mb := by rw [← hmb]; exact hB0.out.size
    replace hmap0 := Lib.hid hmap0
    clear hmm hWm hmb hbm hR0 hB0 hmO hmS hmG
    go_wp2_with fail
    clear hmw
    go_loopw [39] (fun i W => ∃ k : Nat, k ≤ n ∧ i = .int .i64 k ∧ Hid (RiseAt W W0.heap.size q n va (Go.Sv.begun r)) ∧ Hid (IMap W mb k (placeF (varsL l) k)) ∧ Hid (Below W0.heap.size W0 W)) (fun i _ => n - (intOf i).toNat)
    case atStart => exact ⟨0, Nat.zero_le _, rfl, hR1, hmap0, hB1⟩
    case round =>
      obtain ⟨k, hkn, rfl, hR, hMp, hB⟩ := hrel
      by_cases hlt : k < n
      · have hkv : k < (varsL l).length := by rw [hn.out]; exact hlt
        obtain ⟨bv, ov, rfl, hbv, hcv⟩ := (kVr.out wr hB.out) (by intro e; rw [e] at hkv; simp at hkv)
        have c0 := hcv k hkv
        have hI := vars_i64 h6.out hkv
        have hsc := placeF_succ (varsL l) k
        clear hcv
        generalize (varsL l).getD k 0 = v at c0 hI hsc
        obtain ⟨w1, hrun, hm1, hg1⟩ := hMp.out.store (v := (k : Int)) (by unfold maxLen; omega) hI ⟨by omega, by omega⟩
        have hg2 : wr.grownBy w1 (some mb) := ⟨hg1.os, hg1.tape, hg1.output, hg1.size, hg1.block⟩
        have hR2 := Lib.hid (hR.out.mapped hMp.out hg2)
        have hB2 := Lib.hid (hB.out.grown hg2 hB.out.size (fun k e => by cases e; exact hmlo))
        rw [← hsc] at hm1
        replace hm1 := Lib.hid hm1
        clear hg1 hg2 hsc hI
        go_wp2_with fail
        go_roundw
        case rel => exact ⟨k + 1, by omega, by go_num, hR2, hm1, hB2⟩
        case measure => simp [intOf]; omega
      · obtain ⟨k0, hk0⟩ : ∃ k, k = n := ⟨n, rfl⟩
        obtain rfl : k = n := by omega
        subst hk0
        rename World => Wp
        go_wp2_with fail
        have hLy0 := Lib.hid (lay_start (l := l) hTo.out)
        rw [hr.out] at hLy0
        go_loopw [50] (fun i W => ∃ (k : Nat) (va2 : Nat → Value) (s2 : St), k ≤ Q ∧ i = .int .i64 k ∧ Hid (RiseAt W W0.heap.size q k0 va2 s2) ∧ Hid (Lay us l k s2) ∧ Hid (IMap W mb k0 (placeF (varsL l) k0)) ∧ Hid (Below W0.heap.size W0 W)) (fun i _ => Q - (intOf i).toNat)
        case atStart => exact ⟨0, va, _, Nat.zero_le _, rfl, hR, hLy0, hMp, hB⟩
        case round =>
          clear hR hMp hB hLy0
          obtain ⟨k, va2, s2, hkQ, rfl, hR, hLy, hMp, hB⟩ := hrel
          by_cases hlt : k < Q
          · have hkl : k < l.length := by rw [hQ.out]; exact hlt
            obtain ⟨b, off, rfl, hbk, hc⟩ := (kPr.out wr hB.out) (by intro e; subst e; simp at hkl)
            obtain ⟨c0, c1⟩ := hc k hkl
            have hmem : l.getD k (0, 0) ∈ l := by rw [List.getD_eq_getElem?_getD, List.getElem?_eq_getElem hkl]; exact List.getElem_mem _
            have h6k := h6.out _ hmem
            have hkn2 := hkp.out _ hmem
            have m1 : (l.getD k (0, 0)).1 ∈ atomsL l := (atoms_mem l _).2 ⟨_, hmem, .inl rfl⟩
            have m2 : (l.getD k (0, 0)).2 ∈ atomsL l := (atoms_mem l _).2 ⟨_, hmem, .inr rfl⟩
            have ksk := Lib.hid (fun h0 => lay_skip hLy.out hkl h0)
            have kra := Lib.hid (fun b q hb e2 h1 hq hqm => lay_raise (b := b) (q := q) hTo.out hLy.out hkl hb e2 h1 hq hqm)
            have kli := Lib.hid (fun a b ha hb e1 e2 => lay_link (a := a) (b := b) hTo.out hLy.out hkl ha hb e1 e2)
            clear hc hmem
            generalize l.getD k (0, 0) = p at c0 c1 h6k hkn2 m1 m2 ksk kra kli
            obtain ⟨x, y⟩ := p
            dsimp only at c0 c1 h6k hkn2 m1 m2 ksk kra kli
            obtain ⟨W1, hV⟩ : ∃ W, wr.alloc (.cells #[.int .i64 x, .int .i64 y] 58) = W := ⟨_, rfl⟩
            have hxV := World.alloc_heap_new wr (.cells #[.int .i64 x, .int .i64 y] 58)
            have hbV := later_alloc wr (.cells #[.int .i64 x, .int .i64 y] 58)
            have zV : W1.heap.size = wr.heap.size + 1 := by rw [← hV, World.size_alloc]
            rw [hV] at hxV hbV
            have hRV := Lib.hid (hR.out.later hbV)
            have hMV := Lib.hid (hMp.out.same (hbV.block mb hMp.out.lt))
            have hBV := Lib.hid (hB.out.trans (hbV.mono hB.out.size))
            have v0 : W1.cell? ⟨wr.heap.size, 0, none⟩ = some (.int .i64 x) := cell_of_row _ _ 0 _ _ _ hxV
            have v1 : W1.cell? ⟨wr.heap.size, 1, none⟩ = some (.int .i64 y) := cell_of_row _ _ 1 _ _ _ hxV
            have kx := Lib.hid (kI.out x)
            have ky := Lib.hid (kI.out y)
            have hlx := hMV.out.look h6k.1
            have hly := hMV.out.look h6k.2
            replace hxV := Lib.hid hxV
            replace hbV := Lib.hid hbV
            replace zV := Lib.hid zV
            cases hpy : isP y with
            | true =>
              have hy0 : y < 0 := of_decide_eq_true hpy
              rw [hpy] at ky
              have hL2 := Lib.hid (ksk.out hy0)
              replace hpy := Lib.hid hpy
              clear hlx hly kra kli ksk
              go_wp2_with (go_at_call 24; refine (ky.out _).mono ?_; rintro e w' ⟨rfl, rfl⟩)
              go_roundw
              case rel => exact ⟨k + 1, va2, s2, by omega, by go_num, hRV, hL2, hMV, hBV⟩
              case measure => simp [intOf]; omega
            | false =>
              have hy0 : ¬ y < 0 := of_decide_eq_false hpy
              rw [hpy] at ky
              replace hpy := Lib.hid hpy
              obtain ⟨ib, hib, eib⟩ := vars_at m2 (by omega)
              have hpb := placeF_get l _ (Nat.le_refl _) ib hib
              rw [eib] at hpb
              rw [hn.out] at hpb hib
              rw [hpb] at hly
              simp only [Option.getD_some] at hly
              replace hpb := Lib.hid hpb
              cases hpx : isP x with
              | true =>
                have hx0 : x < 0 := of_decide_eq_true hpx
                rw [hpx] at kx
                replace hpx := Lib.hid hpx
                obtain ⟨-, qx, eqx, hqx⟩ := value_pt (ns := ns) (us := us) (s := []) hx0 hkn2.1
                have hqm : qx < us.length := by rw [← hTo.out.eqn]; exact hqx
                have eP : pointOfT x = ((qx : Nat) : Int) := by rw [← eqx]; exact if_pos hx0
                have kpo := Lib.hid (kPo.out x h6k.1)
                rw [eP] at kpo
                have htl : s2.T.length ≤ 1099511627776 := by
                  have h1 := nodup_len _ _ hLy.out.inv.nodup hLy.out.inv.tlt
                  have h2 := hn.out
                  omega
                have hL2 := Lib.hid (kra.out ib qx (by rw [hn.out]; exact hib) eib hx0 eqx.symm hqm)
                have hbd : Below W1.heap.size W1 W1.drew := (Below.refl _ _).drew
                have krs := Lib.hid (raise_any (s := s2) (q := q) (va := va2) ib (Lt.row us qx) hib (hL.out.w64 qx) htl W1.drew hBV.out.size (hRV.out.later hbd))
                have hMd : Hid (IMap W1.drew mb k0 (placeF (varsL l) k0)) := hMV.out.same rfl
                have hRd := Lib.hid (hRV.out.later hbd)
                have u1 := (hBV.out.cell (p := ⟨bu, ou + qx, none⟩) hbu).trans (hcu.out qx hqm)
                obtain ⟨b0, b1, -⟩ := kb.out W1 hBV.out
                generalize Lt.row us qx = rw0 at krs u1 hL2
                have hqU : (qx : Int) < (U : Int) := by have := hU.out; omega
                have hqU2 : qx < U := by have := hU.out; omega
                replace eqx := Lib.hid eqx
                replace eP := Lib.hid eP
                clear hlx kra kli ksk hqm hx0 hy0
                go_wp2_with (first
                  | (go_at_call 24; refine (ky.out _).mono ?_; clear ky; rintro e w' ⟨rfl, rfl⟩)
                  | (go_at_call 24; refine (kx.out _).mono ?_; rintro e w' ⟨rfl, rfl⟩))
                go_region_with (first
                  | (go_at_call 43; refine (kpo.out _).mono ?_; rintro e w' ⟨rfl, rfl⟩)
                  | (go_at_call 58; refine krs.out.mono ?_; rintro e w7 ⟨rfl, ⟨va3, hr7, -⟩, hb7, hk7⟩))
                all_goals
                  have hM7 := Lib.hid (hMd.out.kept hRd.out hk7)
                  have hB7 : Hid (Below W0.heap.size W0 w7) := hBV.out.drew.trans hb7
                  replace hr7 := Lib.hid hr7
                  clear hk7 hb7
                  go_wp2_with fail
                  go_roundw
                  case rel => exact ⟨k + 1, va3, _, by omega, by go_num, hr7, hL2, hM7, hB7⟩
                  case measure => simp [intOf]; omega
              | false =>
                have hx0 : ¬ x < 0 := of_decide_eq_false hpx
                rw [hpx] at kx
                replace hpx := Lib.hid hpx
                obtain ⟨ia, hia, eia⟩ := vars_at m1 (by omega)
                have hpa := placeF_get l _ (Nat.le_refl _) ia hia
                rw [eia] at hpa
                rw [hn.out] at hpa hia
                rw [hpa] at hlx
                simp only [Option.getD_some] at hlx
                replace hpa := Lib.hid hpa
                have hiaI : (ia : Int) < (k0 : Int) := by omega
                have hiaJ : (0 : Int) ≤ (ia : Int) := by omega
                obtain ⟨gR, cR, gO, cO, gS, cS, gG, cG, eR, eO, eS, eG, -, -, -, -, lO⟩ := hRV.out.sl (by omega)
                obtain ⟨A9, cA, eA, hA1, hA2⟩ := hRV.out.bank.row (k := ia + 5) (by omega)
                obtain ⟨-, q1, -⟩ := hRV.out.bx
                obtain ⟨o0, o1⟩ := hRV.out.rowO eO hia
                replace eA : va2 (ia + 5) = .slice A9 (s2.O ia).length cA := eA
                rw [eO] at q1
                rw [eA] at o0
                have hbd : Below W1.heap.size W1 W1.drew := (Below.refl _ _).drew
                have hRd := Lib.hid (hRV.out.later hbd)
                have hMd : Hid (IMap W1.drew mb k0 (placeF (varsL l) k0)) := hMV.out.same rfl
                have hL2 := Lib.hid (kli.out ia ib (by rw [hn.out]; exact hia) (by rw [hn.out]; exact hib) eia eib)
                have hbx := later_alloc W1.drew (.cells #[.int .i64 (ib : Nat)] 3)
                have hxx := World.alloc_heap_new W1.drew (.cells #[.int .i64 (ib : Nat)] 3)
                have hown1 : Hid ((W1.drew.alloc (.cells #[.int .i64 (ib : Nat)] 3)).ownsRow W0.heap.size 3 1 (.slice A9 (s2.O ia).length cA) (s2.O ia).length (intL (s2.O ia))) := by
                  have := (hRd.out.later hbx).bank.own (ia + 5) (by omega)
                  rw [eA] at this
                  exact this
                have hnew := Lib.hid (cell_one_new W1.drew (.int .i64 (ib : Nat)) 3)
                have hbs : Hid (W0.heap.size ≤ (W1.drew.alloc (.cells #[.int .i64 (ib : Nat)] 3)).heap.size) := Nat.le_trans hBV.out.size hbx.size
                have kend := Lib.hid (fun (v7 : Value) (w7 : World) (ho : w7.ownsRow W0.heap.size 3 1 v7 (s2.O ia ++ [ib]).length (intL (s2.O ia ++ [ib]))) => fun hg7 hat7 => hRd.out.link (v' := v7) (W' := w7) hia eO hbx ho hg7 hat7)
                have hOl : (s2.O ia).length ≤ 1048576 := by have := hLy.out.few ia; omega
                have hbsz := hbx.size
                replace hbx := Lib.hid hbx
                obtain ⟨La, hLa⟩ : ∃ La, (s2.O ia).length = La := ⟨_, rfl⟩
                have hLa1 : Hid ((s2.O ia ++ [ib]).length = La + 1) := by show _ = _; rw [List.length_append, hLa]; rfl
                have hil : Hid (intL (s2.O ia ++ [ib]) = intL (s2.O ia) ++ [.int .i64 (ib : Nat)]) := intL_snoc _ _
                rw [hLa] at o0 hown1 hOl
                have eA2 : Hid (va2 (ia + 5) = .slice A9 La cA) := by show _ = _; rw [eA, hLa]
                generalize intL (s2.O ia) = xs at hown1 hil
                replace eA := Lib.hid eA
                replace eO := Lib.hid eO
                replace eR := Lib.hid eR
                replace eS := Lib.hid eS
                replace eG := Lib.hid eG
                replace hLa := Lib.hid hLa
                have hkeep2 := Lib.hid (fun (W : World) (h : Below W1.heap.size W1 W) => (h.cell (p := ⟨q, 1, none⟩) hRV.out.bank.qlt).trans q1)
                have q1d : W1.drew.cell? ⟨q, 1, none⟩ = some (.slice (some ⟨gO, 0, none⟩) k0 cO) := q1
                have q1f : (W1.alloc (.cells #[.int .i64 (ib : Nat)] 3)).drew.cell? ⟨q, 1, none⟩ = some (.slice (some ⟨gO, 0, none⟩) k0 cO) := hkeep2.out _ (hbd.trans hbx.out)
                have q1e : (W1.drew.alloc (.cells #[.int .i64 (ib : Nat)] 3)).cell? ⟨q, 1, none⟩ = some (.slice (some ⟨gO, 0, none⟩) k0 cO) := hkeep2.out _ (hbd.trans hbx.out)
                have o0d : W1.drew.cell? ⟨gO, ia, none⟩ = some (.slice A9 La cA) := o0
                have o0f : (W1.alloc (.cells #[.int .i64 (ib : Nat)] 3)).drew.cell? ⟨gO, ia, none⟩ = some (.slice A9 La cA) := ((hbd.trans hbx.out).cell (p := ⟨gO, ia, none⟩) (World.block_lt_of_cell? W1 _ o0)).trans o0
                have o0e : (W1.drew.alloc (.cells #[.int .i64 (ib : Nat)] 3)).cell? ⟨gO, ia, none⟩ = some (.slice A9 La cA) := ((hbd.trans hbx.out).cell (p := ⟨gO, ia, none⟩) (World.block_lt_of_cell? W1 _ o0)).trans o0
                have hs2 : Hid (Below W1.heap.size W1 (W1.drew.alloc (.cells #[.int .i64 (ib : Nat)] 3))) := hbd.trans hbx.out
                clear kra kli ksk hx0 hy0 hbd hxx hA1 hA2
                go_wp2_with (first
                  | (go_at_call 24; refine (ky.out _).mono ?_; clear ky; rintro e w' ⟨rfl, rfl⟩)
                  | (go_at_call 24; refine (kx.out _).mono ?_; rintro e w' ⟨rfl, rfl⟩))
                go_region_law (first
                  | (refine step_append_hat rfl (.tmp 89) (.tmp 91) 74 rfl W0.heap.size 3 i0 (.int .i64 0) 1 8 Tryd.underlying74 hi.out hz0.out hz1.out hz2.out rfl (by decide) (.slice A9 La cA) La xs (by go_simp) hown1.out ⟨W1.heap.size, 0, none⟩ 1 1 [.int .i64 (ib : Nat)] (by go_simp) rfl hnew.out (fun u hu => by simp at hu; subst hu; rfl) (by unfold maxLen; omega) (by omega) hbs.out ?_
                     intro v7 w7 ho7 hg7 hat7
                     rw [← eA2.out] at hg7 hat7
                     obtain ⟨k1, k2, k3, k4⟩ := kend.out v7 w7 (by rw [hLa1.out, hil.out]; exact ho7) hg7 (hat7.imp id fun e => ⟨_, e, hbsz⟩)
                     rw [eA2.out] at k2
                     rw [eO.out] at k4
                     replace k1 := Lib.hid k1
                     have hB7 : Hid (Below W0.heap.size W0 w7) := (hBV.out.trans (hs2.out.mono hBV.out.size)).grown hg7 hbs.out fun j e => own_block (hRd.out.bank.own (ia + 5) (by omega)) j e
                     have hK7 : Hid (Kept q k0 va2 W1.drew w7) := (Kept.later hbx.out).trans (Kept.grown (k := ia + 5) (by omega) hg7) hbx.out.size
                     obtain ⟨A7, c7, e7, -, -⟩ := own_form' ho7
                     subst e7
                     clear ho7 hg7 hat7))
                all_goals
                  have hM7 := Lib.hid ((hMd.out.kept hRd.out hK7.out).same (Below.heap_setCell _ ⟨gO, ia, none⟩ (.slice A7 (La + 1) c7) _ fun e => (hRd.out.not_map hMd.out).2 1 (by omega) (by rw [eO.out, e]; rfl)))
                  have hB8 : Hid (Below W0.heap.size W0 (w7.setCell ⟨gO, ia, none⟩ (.slice A7 (La + 1) c7))) := hB7.out.setCell (p := ⟨gO, ia, none⟩) lO _
                  clear k2 k3 k4
                  go_wp2_with fail
                  go_roundw
                  case rel => exact ⟨k + 1, _, _, by omega, by go_num, k1, hL2, hM7, hB8⟩
                  case measure => simp [intOf]; omega
          · obtain rfl : k = Q := by omega
            go_wp2_with fail
            go_ret
            have hLe := hLy.out
            rw [← hQ.out] at hLe
            obtain ⟨e1, e2⟩ := lay_end hLe
            refine ⟨⟨W0.heap.size, q, va2, s2, hb0.out.size, rfl, hR.out, ?_, e1, e2⟩, hb0.out.trans (hB.out.mono hb0.out.size)⟩
            have := hLe.inv
            rw [hn.out, hU.out] at this
            exact this
end Go.Proofs.YtlhfdedjboanfaaDoor
