/-
  What is shown of a term that was made is short. Condition: the bytes are bytes.
-/
import Derived.Test.YtpdombmpmhnolaaGreatDoorPaPr
import Derived.Test.YtpdombmpmhnolaaGreatDoorPaMath
import Derived.Test.YtpdombmpmhnolaaGreatDoorFnMade
namespace Go.Proofs.YtpdombmpmhnolaaGreatDoor.Pa
open Go.Tm Go.Lx Go.Proofs.YtpdombmpmhnolaaGreatDoor.F

theorem kidsF_len (f : Nat → Go.Tm.T × Nat) : ∀ k a, (kidsF f k a).1.length = k
  | 0, _ => rfl
  | k + 1, a => by rw [kidsF, List.length_append, kidsF_len f k a]; rfl
theorem kidsF_all {f : Nat → Go.Tm.T × Nat} {P : Go.Tm.T → Prop} (h : ∀ a, P (f a).1) : ∀ k a, ∀ x ∈ (kidsF f k a).1, P x
  | 0, _, x, hx => by cases hx
  | k + 1, a, x, hx => by
    rw [kidsF] at hx
    rcases List.mem_append.1 hx with hx | hx
    · exact kidsF_all h k a x hx
    · obtain rfl := List.mem_singleton.1 hx
      exact h _
theorem costs_sizes : ∀ l : List Go.Tm.T, (∀ x ∈ l, costT x ≤ 19 * (x.size : Int)) → costs l ≤ 19 * (sizes l : Int)
  | [], _ => by rw [costs, sizes]; decide
  | x :: l, h => by
    have h1 := h x (by simp)
    have h2 := costs_sizes l (fun y hy => h y (by simp [hy]))
    rw [costs, sizes]; omega
theorem short_at {l : List ByteArray} (h : ∀ s ∈ l, nlen s ≤ 3) (i : Nat) : nlen (l.getD i ⟨#[]⟩) ≤ 3 := by
  rw [List.getD_eq_getElem?_getD]
  cases e : l[i]? with
  | none => decide
  | some s => exact h s (List.mem_of_getElem? e)
theorem name_short (i : Nat) : nlen (nameAt.getD i ⟨#[]⟩) ≤ 3 := short_at (by decide) i
theorem op_short (i : Nat) : nlen (opAt.getD i ⟨#[]⟩) ≤ 3 := short_at (by decide) i
theorem fld_short (n : Nat) (zs : Nat → Int) (K : Nat) (z5 : Int) (a5 : Nat) : nlen (fldF n zs K z5 a5).1 ≤ 3 := by
  unfold fldF
  split
  · show nlen ⟨#[]⟩ ≤ 3
    decide
  · split
    · exact op_short _
    · split
      · exact name_short _
      · show nlen ⟨#[]⟩ ≤ 3
        decide
theorem fld_num {n : Nat} {zs : Nat → Int} {K : Nat} {z5 : Int} {a5 : Nat} (h : K ≠ 1) : (fldF n zs K z5 a5).2.1 = 0 := by
  unfold fldF
  rw [if_neg h]
  split
  · rfl
  · split <;> rfl
theorem byZ_rng {n : Nat} {zs : Nat → Int} {a : Nat} (h : ∀ j, j < n → 0 ≤ zs j ∧ zs j ≤ 255) : 0 ≤ (byZ n zs a).1 ∧ (byZ n zs a).1 ≤ 255 := by
  unfold byZ
  split
  · exact h _ (by assumption)
  · exact ⟨(by decide : (0 : Int) ≤ 0), (by decide : (0 : Int) ≤ 255)⟩
theorem kind_rng {d n a1 K0 : Nat} (h : 1 ≤ K0 ∧ K0 ≤ 13) : 1 ≤ kindF d n a1 K0 ∧ kindF d n a1 K0 ≤ 13 := by
  unfold kindF
  split <;> omega
theorem cost_num {nm : ByteArray} {n : Int} {b : List Go.Tm.T} (h : 0 ≤ n) (h2 : n ≤ 2147483647) : costT (.node 1 nm n b) ≤ 19 := by
  have h1 := itoa_len h h2
  unfold costT
  rw [toks_1, len2_cons, len2_nil]
  unfold dTok
  simp only
  omega
theorem cost_name {s : ByteArray} {n : Int} {b : List Go.Tm.T} (h : nlen s ≤ 3) : costT (.node 2 s n b) ≤ 19 := by
  unfold nlen at h
  unfold costT
  rw [toks_2, len2_cons, len2_nil]
  unfold nTok
  simp only
  omega
theorem sub_leaf {d n a1 K0 : Nat} (h0 : d = 0) : kindF d n a1 K0 = 1 ∨ kindF d n a1 K0 = 2 := by
  unfold kindF
  rw [if_pos (.inl h0)]
  omega
theorem cost_one {n : Nat} {zs : Nat → Int} (hz : ∀ j, j < n → 0 ≤ zs j ∧ zs j ≤ 255) (d : Nat) (f : Nat → Go.Tm.T × Nat) (hf : d ≠ 0 → ∀ a, costT (f a).1 ≤ 19 * ((f a).1.size : Int)) (a : Nat) : costT (mkOne n zs d f a).1 ≤ 19 * ((mkOne n zs d f a).1.size : Int) := by
  unfold mkOne
  have hk : 1 ≤ kindF d n (byZ n zs a).2 (1 + (byZ n zs a).1 % 13).toNat ∧ kindF d n (byZ n zs a).2 (1 + (byZ n zs a).1 % 13).toNat ≤ 13 := kind_rng (by omega)
  have hlf : d = 0 → kindF d n (byZ n zs a).2 (1 + (byZ n zs a).1 % 13).toNat = 1 ∨ kindF d n (byZ n zs a).2 (1 + (byZ n zs a).1 % 13).toNat = 2 := sub_leaf
  generalize kindF d n (byZ n zs a).2 (1 + (byZ n zs a).1 % 13).toNat = K at hk hlf ⊢
  generalize (byZ n zs (byZ n zs a).2).1 = z5
  generalize (byZ n zs (byZ n zs a).2).2 = a5
  have hs := fld_short n zs K z5 a5
  simp only
  rw [T.size]
  by_cases h1 : K = 1
  · subst h1
    have hb := byZ_rng (a := a5) hz
    have := cost_num (nm := (fldF n zs 1 z5 a5).1) (n := (fldF n zs 1 z5 a5).2.1) (b := (kidsF f (kidsTab.getD 1 0) (fldF n zs 1 z5 a5).2.2).1) (by show 0 ≤ (byZ n zs a5).1 * 8421504; omega) (by show (byZ n zs a5).1 * 8421504 ≤ _; omega)
    rw [show ((1 : Nat) : Int) = 1 from rfl]
    omega
  · have hn := fld_num (n := n) (zs := zs) (z5 := z5) (a5 := a5) h1
    generalize (fldF n zs K z5 a5).2.2 = a6
    generalize (fldF n zs K z5 a5).1 = nm at hs ⊢
    rw [hn]
    by_cases h2 : K = 2
    · subst h2
      have := cost_name (n := 0) (b := (kidsF f (kidsTab.getD 2 0) a6).1) hs
      rw [show ((2 : Nat) : Int) = 2 from rfl]
      omega
    · have hd : d ≠ 0 := fun e => by have := hlf e; omega
      have hc := costs_sizes _ (kidsF_all (P := fun x => costT x ≤ 19 * (x.size : Int)) (hf hd) (kidsTab.getD K 0) a6)
      have hl := kidsF_len f (kidsTab.getD K 0) a6
      generalize (kidsF f (kidsTab.getD K 0) a6).1 = b at hc hl ⊢
      have hm : ((K : Int), kidsTab.getD K 0) ∈ mks ∧ wk K + (if named K = true then 3 else 0) + 4 ≤ 19 := by
        have h3 : K = 3 ∨ K = 4 ∨ K = 5 ∨ K = 6 ∨ K = 7 ∨ K = 8 ∨ K = 9 ∨ K = 10 ∨ K = 11 ∨ K = 12 ∨ K = 13 := by omega
        rcases h3 with h | h | h | h | h | h | h | h | h | h | h <;> subst h <;> decide
      have h4 := cost_made (s := nm) hm.1 hl
      have h5 := hm.2
      split at h4
      · rename_i h6
        rw [if_pos h6] at h5
        omega
      · rename_i h6
        rw [if_neg h6] at h5
        omega
theorem cost_mk {n : Nat} {zs : Nat → Int} (hz : ∀ j, j < n → 0 ≤ zs j ∧ zs j ≤ 255) : ∀ d a, costT (mkT n zs d a).1 ≤ 19 * ((mkT n zs d a).1.size : Int)
  | 0, a => cost_one hz 0 _ (fun h => absurd rfl h) a
  | d + 1, a => cost_one hz (d + 1) _ (fun _ a => cost_mk hz d a) a
/-- what is shown of what is made -/
theorem made_short {zs : List Int} (hz : ∀ z ∈ zs, 0 ≤ z ∧ z ≤ 255) (h : Rt (madeT zs)) (hs : (madeT zs).size ≤ 181) (hd : (madeT zs).depth ≤ 7) : (showS (madeT zs)).size ≤ 3434 ∧ len2 (toksT (madeT zs)) ≤ 3435 := by
  have h1 : costT (madeT zs) ≤ 19 * ((madeT zs).size : Int) := cost_mk (fun j hj => by
    rw [List.getD_eq_getElem?_getD, List.getElem?_eq_getElem hj]
    exact hz _ (List.mem_of_mem_take (List.getElem_mem _))) 6 0
  have h2 := small_right h hs hd
  have h4 : toksT (madeT zs) ≠ [] := by
    have := (toks_len (rt_parts h2).1).2
    intro h0; rw [h0] at this; simp at this
  have h5 := print_len2 _ h4
  unfold costT at h1
  rw [size_show h2]
  omega
end Go.Proofs.YtpdombmpmhnolaaGreatDoor.Pa
