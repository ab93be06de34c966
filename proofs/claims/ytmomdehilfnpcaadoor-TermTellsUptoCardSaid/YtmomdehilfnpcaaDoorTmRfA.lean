/-
  The reference's Free: math; and Add to whatever list is its own. Conditions: as stated.
-/
import Derived.Test.YtmomdehilfnpcaaDoorTmRf9a
import Derived.Test.YtmomdehilfnpcaaDoorTmNames
namespace Go.Proofs.YtmomdehilfnpcaaDoor
open Go.RowKit Go.Shelf Go.Tm Go.Maps

theorem refadd_any (v : Value) (M : List ByteArray) (s : ByteArray) (base : Nat) (w : World) (hb : base ≤ w.heap.size) (hl : M.length ≤ 4294967296) (hS : Srt M) (hown : w.ownsRow base 9 1 v M.length (M.map .string)) :
    Calls Tryd.prog 42 #[v, .string s] w fun e w' => ∃ v', e = .returned v' ∧ AddPost base M s w v' w' := by
  have hown' := hown
  obtain ⟨_, ⟨rfl, h1⟩ | ⟨g, cap, cur, rfl, _⟩⟩ := hown
  · obtain rfl := List.eq_nil_of_length_eq_zero h1
    refine (refadd_nil s base w hb).mono fun e w' ⟨v, h2, h3, h4⟩ => ⟨v, h2, [s], h3, ⟨List.pairwise_singleton _ _, fun x => by simp⟩, Nat.le_refl _, h4⟩
  · exact refadd_some M g cap s base w hb hl hS hown'

theorem frees_iff (s : ByteArray) (b : Bool) : ∀ ts : List Go.Tm.T, frees s b ts = true ↔ ∃ j, j < ts.length ∧ (ts.getD j default).free s = true ∧ ¬ (b = true ∧ j + 1 = ts.length)
  | [] => by rw [frees]; simp
  | t :: ts => by
    rw [frees, Bool.or_eq_true, Bool.and_eq_true, frees_iff s b ts]
    constructor
    · rintro (⟨h1, h2⟩ | ⟨j, h1, h2, h3⟩)
      · refine ⟨0, by simp, h1, fun ⟨h3, h4⟩ => ?_⟩
        rw [h3] at h2
        cases ts with
        | nil => simp at h2
        | cons a l => simp at h4
      · exact ⟨j + 1, by simpa using h1, h2, fun ⟨h4, h5⟩ => h3 ⟨h4, by simpa using h5⟩⟩
    · rintro ⟨j, h1, h2, h3⟩
      cases j with
      | zero =>
        left
        refine ⟨h2, ?_⟩
        cases b with
        | false => rfl
        | true =>
          cases ts with
          | nil => exact absurd ⟨rfl, rfl⟩ h3
          | cons a l => rfl
      | succ j =>
        right
        exact ⟨j, by simpa using h1, h2, fun ⟨h4, h5⟩ => h3 ⟨h4, by simpa using h5⟩⟩
/-- free by what was gone through: the first k kids, and of kid k those of L -/
def upto (t : Go.Tm.T) (k : Nat) (L : List ByteArray) (b : Bool) (s : ByteArray) : Prop :=
  (t.kind = 2 ∧ t.name = s) ∨ (∃ j, j < k ∧ j < t.kids.length ∧ (t.kids.getD j default).free s = true ∧ ¬ (bindK t.kind = true ∧ t.name = s ∧ j + 1 = t.kids.length)) ∨ (s ∈ L ∧ ¬ (b = true ∧ s = t.name))
theorem upto_all (t : Go.Tm.T) (s : ByteArray) (b : Bool) : upto t t.kids.length [] b s ↔ t.free s = true := by
  rw [free_eq, Bool.or_eq_true, frees_iff, Bool.and_eq_true, beq_iff_eq, decide_eq_true_eq]
  unfold upto
  constructor
  · rintro (h | ⟨j, _, h1, h2, h3⟩ | ⟨h, _⟩)
    · exact .inl h
    · exact .inr ⟨j, h1, h2, fun ⟨h4, h5⟩ => by
        rw [Bool.and_eq_true, decide_eq_true_eq] at h4
        exact h3 ⟨h4.1, h4.2, h5⟩⟩
    · cases h
  · rintro (h | ⟨j, h1, h2, h3⟩)
    · exact .inl h
    · exact .inr (.inl ⟨j, h1, h1, h2, fun ⟨h4, h5, h6⟩ => h3 ⟨by rw [Bool.and_eq_true, decide_eq_true_eq]; exact ⟨h4, h5⟩, h6⟩⟩)
theorem upto_free {t : Go.Tm.T} {k : Nat} {L : List ByteArray} {b : Bool} {s : ByteArray} (h : upto t k L b s) (hk : k < t.kids.length) (hL : ∀ x ∈ L, (t.kids.getD k default).free x = true) (hb : b = (bindK t.kind && decide (k + 1 = t.kids.length))) : t.free s = true := by
  rw [free_eq, Bool.or_eq_true, frees_iff, Bool.and_eq_true, beq_iff_eq, decide_eq_true_eq]
  rcases h with h | ⟨j, _, h1, h2, h3⟩ | ⟨h1, h2⟩
  · exact .inl h
  · exact .inr ⟨j, h1, h2, fun ⟨h4, h5⟩ => by
      rw [Bool.and_eq_true, decide_eq_true_eq] at h4
      exact h3 ⟨h4.1, h4.2, h5⟩⟩
  · exact .inr ⟨k, hk, hL s h1, fun ⟨h4, h5⟩ => by
      rw [Bool.and_eq_true, decide_eq_true_eq] at h4
      exact h2 ⟨by rw [hb, h4.1, decide_eq_true h5]; rfl, h4.2.symm⟩⟩
theorem upto_next {t : Go.Tm.T} {k : Nat} {L : List ByteArray} {b : Bool} {s : ByteArray} (hk : k < t.kids.length) (hL : ∀ x, x ∈ L ↔ (t.kids.getD k default).free x = true) (hb : b = (bindK t.kind && decide (k + 1 = t.kids.length))) : upto t k L b s ↔ upto t (k + 1) [] false s := by
  unfold upto
  constructor
  · rintro (h | ⟨j, h0, h1, h2, h3⟩ | ⟨h1, h2⟩)
    · exact .inl h
    · exact .inr (.inl ⟨j, by omega, h1, h2, h3⟩)
    · exact .inr (.inl ⟨k, by omega, hk, (hL s).1 h1, fun ⟨h4, h5, h6⟩ => h2 ⟨by rw [hb, h4, decide_eq_true h6]; rfl, h5.symm⟩⟩)
  · rintro (h | ⟨j, h0, h1, h2, h3⟩ | ⟨h1, _⟩)
    · exact .inl h
    · by_cases e : j = k
      · subst e
        exact .inr (.inr ⟨(hL s).2 h2, fun ⟨h4, h5⟩ => by
          rw [hb, Bool.and_eq_true, decide_eq_true_eq] at h4
          exact h3 ⟨h4.1, h5.symm, h4.2⟩⟩)
      · exact .inr (.inl ⟨j, by omega, h1, h2, h3⟩)
    · cases h1
theorem upto_snoc {t : Go.Tm.T} {k : Nat} {L : List ByteArray} {x : ByteArray} {b : Bool} {s : ByteArray} : upto t k (L ++ [x]) b s ↔ upto t k L b s ∨ (s = x ∧ ¬ (b = true ∧ x = t.name)) := by
  unfold upto
  constructor
  · rintro (h | h | ⟨h1, h2⟩)
    · exact .inl (.inl h)
    · exact .inl (.inr (.inl h))
    · rcases List.mem_append.1 h1 with h1 | h1
      · exact .inl (.inr (.inr ⟨h1, h2⟩))
      · obtain rfl := List.mem_singleton.1 h1
        exact .inr ⟨rfl, h2⟩
  · rintro ((h | h | ⟨h1, h2⟩) | ⟨rfl, h2⟩)
    · exact .inl h
    · exact .inr (.inl h)
    · exact .inr (.inr ⟨List.mem_append_left _ h1, h2⟩)
    · exact .inr (.inr ⟨List.mem_append_right _ (List.mem_singleton.2 rfl), h2⟩)
theorem srt_len {t : Go.Tm.T} {M : List ByteArray} (h : Srt M) (hm : ∀ s ∈ M, t.free s = true) : M.length ≤ t.size := by
  have h1 : M.length ≤ (runS ([], []) (walk (rootT t) 0 1 t)).2.length := h.nodup.length_le_of_subset fun s hs => (run_root t (rootT t) rfl rfl s).2 (hm s hs)
  have h2 := (runS_len (walk (rootT t) 0 1 t) ([], [])).2
  rw [walk_len] at h2
  simp at h2
  omega
theorem bind_binder (k : Int) : bindK k = binderB k := rfl
/-- what Free answers -/
def FreeV (t : Go.Tm.T) (base : Nat) (v : Value) (w' : World) : Prop := ∃ M, w'.ownsRow base 9 1 v M.length (M.map .string) ∧ Srt M ∧ ∀ s, s ∈ M ↔ t.free s = true
/-- what is gathered on the way -/
structure FS (V W : World) (t : Go.Tm.T) (k : Nat) (L : List ByteArray) (b : Bool) (v : Value) (M : List ByteArray) : Prop where
  below : Below V.heap.size V W
  own : W.ownsRow V.heap.size 9 1 v M.length (M.map .string)
  srt : Srt M
  mem : ∀ s, s ∈ M ↔ upto t k L b s
theorem FS.later {V W W' : World} {t : Go.Tm.T} {k : Nat} {L : List ByteArray} {b : Bool} {v : Value} {M : List ByteArray} (h : FS V W t k L b v M) (hb : Below W.heap.size W W') : FS V W' t k L b v M :=
  ⟨h.below.trans (hb.mono h.below.size), ownsRow_same h.own fun g hg => by
    obtain ⟨cur, hc, _⟩ := ownsRow_at h.own hg
    exact hb.block g (World.lt_of_get hc), h.srt, h.mem⟩
theorem FS.add {V W W' : World} {t : Go.Tm.T} {k : Nat} {L : List ByteArray} {b : Bool} {v v' : Value} {M : List ByteArray} {x : ByteArray} (h : FS V W t k L b v M) (hb : ¬ (b = true ∧ x = t.name)) (hp : AddPost V.heap.size M x W v' W') : ∃ M', FS V W' t k (L ++ [x]) b v' M' := by
  obtain ⟨M', h1, h2, _, h4⟩ := hp
  exact ⟨M', h.below.trans (h4.mono h.below.size), h1, h2.srt, fun s => by
    rw [h2.mem, h.mem, upto_snoc]
    exact ⟨fun h => h.imp id (fun e => ⟨e, hb⟩), fun h => h.imp id (fun e => e.1)⟩⟩
theorem FS.skip {V W : World} {t : Go.Tm.T} {k : Nat} {L : List ByteArray} {b : Bool} {v : Value} {M : List ByteArray} {x : ByteArray} (h : FS V W t k L b v M) (hb : b = true ∧ x = t.name) : FS V W t k (L ++ [x]) b v M :=
  ⟨h.below, h.own, h.srt, fun s => by
    rw [h.mem, upto_snoc]
    exact ⟨.inl, fun h => h.elim id (fun e => absurd hb e.2)⟩⟩
end Go.Proofs.YtmomdehilfnpcaaDoor
