/-
  Terms as trees, and the places in them in the order in which they are gone through. No condition.
-/
namespace Go.Tm

/-- a term: its kind, name, number, kids -/
inductive T where
  | node (kind : Int) (name : ByteArray) (num : Int) (kids : List T) : T

def T.kind : T → Int | .node k _ _ _ => k
def T.name : T → ByteArray | .node _ s _ _ => s
def T.num : T → Int | .node _ _ n _ => n
def T.kids : T → List T | .node _ _ _ ks => ks
instance : Inhabited T := ⟨.node 0 ByteArray.empty 0 []⟩

mutual
/-- how many terms it is made of -/
def T.size : T → Nat
  | .node _ _ _ ks => 1 + sizes ks
def sizes : List T → Nat
  | [] => 0
  | t :: ts => t.size + sizes ts
end
mutual
/-- how many stand one in another -/
def T.depth : T → Nat
  | .node _ _ _ ks => 1 + depths ks
def depths : List T → Nat
  | [] => 0
  | t :: ts => max t.depth (depths ts)
end

theorem size_pos (t : T) : 1 ≤ t.size := by cases t; unfold T.size; omega
theorem size_kid : ∀ (ks : List T) (i : Nat), i < ks.length → (ks.getD i default).size ≤ sizes ks
  | [], i, h => absurd h (Nat.not_lt_zero i)
  | t :: ts, 0, _ => by
    show t.size ≤ sizes (t :: ts)
    rw [sizes]; omega
  | t :: ts, i + 1, h => by
    have := size_kid ts i (by simpa using h)
    show (ts.getD i default).size ≤ sizes (t :: ts)
    rw [sizes]; omega
theorem T.eta (t : T) : t = .node t.kind t.name t.num t.kids := by cases t; rfl
theorem size_eq (t : T) : t.size = 1 + sizes t.kids := by cases t; rfl
theorem kid_small (t : T) (i : Nat) (h : i < t.kids.length) : (t.kids.getD i default).size < t.size := by
  have := size_kid t.kids i h
  rw [size_eq t]; omega

/-- the places of a term that is that kid of another, at that depth: itself, and those of its kids, in order -/
abbrev P3 := T × Nat × Nat
mutual
def walk (par : T) (kid d : Nat) : T → List P3
  | .node k s n ks => (par, kid, d) :: walks (.node k s n ks) 0 (d + 1) ks
def walks (par : T) (i d : Nat) : List T → List P3
  | [] => []
  | t :: ts => walk par i d t ++ walks par (i + 1) d ts
end
theorem walk_eq (par : T) (kid d : Nat) (t : T) : walk par kid d t = (par, kid, d) :: walks t 0 (d + 1) t.kids := by
  cases t; rw [walk]; rfl
mutual
theorem walk_len (par : T) (kid d : Nat) : ∀ t : T, (walk par kid d t).length = t.size
  | .node k s n ks => by rw [walk, List.length_cons, walks_len (.node k s n ks) 0 (d + 1) ks, T.size]; omega
theorem walks_len (par : T) (i d : Nat) : ∀ ts : List T, (walks par i d ts).length = sizes ts
  | [] => by rw [walks, sizes]; rfl
  | t :: ts => by rw [walks, sizes, List.length_append, walk_len par i d t, walks_len par (i + 1) d ts]
end
theorem drop_getD {ks : List T} {i : Nat} (h : i < ks.length) : ks.drop i = ks.getD i default :: ks.drop (i + 1) := by
  rw [List.drop_eq_getElem_cons h, List.getD_eq_getElem?_getD, List.getElem?_eq_getElem h]; rfl
theorem walks_drop (par : T) (i d : Nat) {ks : List T} (h : i < ks.length) : walks par i d (ks.drop i) = walk par i d (ks.getD i default) ++ walks par (i + 1) d (ks.drop (i + 1)) := by
  rw [drop_getD h, walks]

/-- a step: the term that the place is in, which kid of it, how deep; where that term lies is told beside it -/
structure Pl where
  blk : Nat
  off : Nat
  par : T
  kid : Nat
  depth : Nat
def Pl.t (p : Pl) : T := p.par.kids.getD p.kid default
def Pl.p3 (p : Pl) : P3 := (p.par, p.kid, p.depth)

end Go.Tm
