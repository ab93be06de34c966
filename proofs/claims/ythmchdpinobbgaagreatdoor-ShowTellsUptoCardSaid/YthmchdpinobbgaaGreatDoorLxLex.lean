/-
  The walk of lex.Lex: all tokens of a text, or an error. Condition: the variables that are read lie as laid.
-/
import Derived.Test.YthmchdpinobbgaaGreatDoorLxW5
import Derived.Lib.IndexBytes
namespace Go.Proofs.YthmchdpinobbgaaGreatDoor.X
open Go.RowKit Go.Lx

/-- the tokens' cells, one behind another -/
def cellsOf (l : List Tok) : List Value := l.flatMap fun t => [.int .i64 t.kind, .string (strOf t.text), .int .i64 t.num]
theorem cellsOf_snoc (l : List Tok) (t : Tok) : cellsOf (l ++ [t]) = cellsOf l ++ [.int .i64 t.kind, .string (strOf t.text), .int .i64 t.num] := by
  unfold cellsOf; rw [List.flatMap_append]; rfl
theorem cellsOf_length (l : List Tok) : (cellsOf l).length = l.length * 3 := by
  unfold cellsOf
  induction l with
  | nil => rfl
  | cons t l ih => rw [List.flatMap_cons, List.length_append, ih]; simp; omega
theorem cellsOf_get : ∀ (l : List Tok) (j : Nat), j < l.length → (cellsOf l)[j * 3]? = some (.int .i64 (l.getD j ⟨0, [], 0⟩).kind) ∧ (cellsOf l)[j * 3 + 1]? = some (.string (strOf (l.getD j ⟨0, [], 0⟩).text)) ∧ (cellsOf l)[j * 3 + 2]? = some (.int .i64 (l.getD j ⟨0, [], 0⟩).num)
  | [], _, h => by simp at h
  | t :: l, 0, _ => ⟨rfl, rfl, rfl⟩
  | t :: l, j + 1, h => by
    have ih := cellsOf_get l j (by simp at h; omega)
    have e : cellsOf (t :: l) = .int .i64 t.kind :: .string (strOf t.text) :: .int .i64 t.num :: cellsOf l := rfl
    rw [e, List.getD_cons_succ, show (j + 1) * 3 = j * 3 + 1 + 1 + 1 from by omega]
    exact ih
/-- what was gathered, as a slice of tokens -/
theorem toks_of {W : World} {base : Nat} {v : Value} {l : List Tok} (h : W.ownsRow base 45 3 v l.length (cellsOf l)) :
    ∃ A c, v = .slice A l.length c ∧ Toks W W.heap.size A l ∧ l.length ≤ c ∧ c ≤ 9223372036854775807 ∧ (A = none → c = 0) := by
  obtain ⟨_, h1 | ⟨g, cap, cur, rfl, _, hg, h2, h3, h4, h5⟩⟩ := h
  · obtain ⟨rfl, h0⟩ := h1
    rw [h0]
    exact ⟨none, 0, rfl, by rw [List.length_eq_zero_iff.1 h0]; exact Toks.nil _ _ _, Nat.le_refl _, by decide, fun _ => rfl⟩
  · refine ⟨some ⟨g, 0, none⟩, cap, rfl, fun _ => ⟨g, 0, rfl, (Array.getElem?_eq_some_iff.1 hg).1, fun j hj => ?_⟩, h2, h3, fun h => by cases h⟩
    have key : ∀ i u, (cellsOf l)[i]? = some u → W.cell? ⟨g, i, none⟩ = some u := fun i u hu => by
      have hi : i < l.length * 3 := by
        have := (List.getElem?_eq_some_iff.1 hu).1
        rwa [cellsOf_length] at this
      have e : cur[i]? = some u := by
        rw [← h5, List.getElem?_take_of_lt hi, Array.getElem?_toList] at hu
        exact hu
      rw [cell_of_row W g i cur _ _ hg]
      exact e
    obtain ⟨c0, c1, c2⟩ := cellsOf_get l j hj
    rw [Nat.zero_add]
    exact ⟨key _ _ c0, key _ _ c1, key _ _ c2⟩
theorem own_later {W W' : World} {base size n : Nat} {e : TypeId} {v : Value} {xs : List Value} (h : W.ownsRow base e size v n xs) (hb : Below W.heap.size W W') : W'.ownsRow base e size v n xs := by
  obtain ⟨h1, h2 | ⟨g, cap, cur, hv, hbg, hg, r⟩⟩ := h
  · exact ⟨h1, .inl h2⟩
  · exact ⟨h1, .inr ⟨g, cap, cur, hv, hbg, (hb.block g (Array.getElem?_eq_some_iff.1 hg).1).trans hg, r⟩⟩
theorem own_block {W : World} {base size n : Nat} {e : TypeId} {v : Value} {xs : List Value} (h : W.ownsRow base e size v n xs) (k : Nat) (hk : v.ownBlock = some k) : base ≤ k := by
  obtain ⟨_, ⟨rfl, _⟩ | ⟨g, cap, cur, rfl, hbg, _⟩⟩ := h
  · cases hk
  · cases hk; exact hbg
def strSz : Value → Nat
  | .string s => s.size
  | _ => 0
theorem info_tok : (Tryz.prog.info? 45).map (fun i => (i.zero, i.size, i.bytes)) = some (some (.agg #[.int .i64 0, .string ⟨#[]⟩, .int .i64 0]), 3, 32) := by kernel_rfl

/-- what Lex answers -/
def LexPost (s : ByteArray) (w : World) (e : Ending) (w' : World) : Prop := Below w.heap.size w w' ∧
  ((65536 < s.size ∧ e = .returned (.tuple #[.slice none 0 0, .int .i64 1])) ∨
   (s.size ≤ 65536 ∧ lexL s.data.toList = none ∧ e = .returned (.tuple #[.slice none 0 0, .int .i64 2])) ∨
   (s.size ≤ 65536 ∧ ∃ l A c, lexL s.data.toList = some l ∧ e = .returned (.tuple #[.slice A l.length c, .int .i64 0]) ∧ Toks w' w'.heap.size A l ∧ l.length ≤ c ∧ c ≤ 9223372036854775807 ∧ (A = none → c = 0)))

theorem lex_go {R : List UInt8} {l : List Tok} {S : List UInt8} {n : Nat} (h : lexL S = (lexL R).map (l ++ ·)) (hs : lexL R = lexL (R.drop n)) : lexL S = (lexL (R.drop n)).map (l ++ ·) := by rw [h, hs]
theorem lex_tok {R : List UInt8} {l : List Tok} {S : List UInt8} {n : Nat} {t : Tok} (h : lexL S = (lexL R).map (l ++ ·)) (hs : lexL R = (lexL (R.drop n)).map (t :: ·)) : lexL S = (lexL (R.drop n)).map ((l ++ [t]) ++ ·) := by
  rw [h, hs]
  cases lexL (R.drop n) <;> simp
theorem lex_bad {R : List UInt8} {l : List Tok} {S : List UInt8} (h : lexL S = (lexL R).map (l ++ ·)) (hs : lexL R = none) : lexL S = none := by rw [h, hs]; rfl

end Go.Proofs.YthmchdpinobbgaaGreatDoor.X
