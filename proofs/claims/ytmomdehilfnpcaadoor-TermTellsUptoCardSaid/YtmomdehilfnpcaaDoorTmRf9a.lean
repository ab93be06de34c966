/-
  The reference's Add to a list that is laid. Conditions: the list is its own, sorted, of at most 2^32 texts.
-/
import Derived.Test.YtmomdehilfnpcaaDoorTmRf9
namespace Go.Proofs.YtmomdehilfnpcaaDoor
open Go.RowKit Go.Shelf Go.Tm Go.Maps
attribute [local go_sem] Oper.semAt_some
attribute [local go_sem ↓] Go.wp_at_zero Go.wp_at_succ

theorem none_ge {B : Nat} (k : Nat) (e : (Value.slice none 0 0).ownBlock = some k) : B ≤ k := by cases e

set_option maxRecDepth 100000 in
set_option maxHeartbeats 4000000 in
/-- to one that is laid -/
theorem refadd_some (M : List ByteArray) (g cap : Nat) (s : ByteArray) (base : Nat) (w : World) (hb : base ≤ w.heap.size) (hl : M.length ≤ 4294967296) (hS : Srt M) (hown : w.ownsRow base 9 1 (.slice (some ⟨g, 0, none⟩) M.length cap) M.length (M.map .string)) :
    Calls Tryd.prog 42 #[.slice (some ⟨g, 0, none⟩) M.length cap, .string s] w fun e w' => ∃ v, e = .returned v ∧ AddPost base M s w v w' := by
  obtain ⟨i0, hi, hi2⟩ := Option.map_eq_some_iff.1 info_strA
  obtain ⟨hz0, hz1, hz2⟩ : i0.zero = some (.string ⟨#[]⟩) ∧ i0.size = 1 ∧ i0.bytes = 16 := by
    injection hi2 with h1 h2; injection h2 with h2 h3; exact ⟨h1, h2, h3⟩
  replace hi := Lib.hid hi
  replace hz0 := Lib.hid hz0
  replace hz1 := Lib.hid hz1
  replace hz2 := Lib.hid hz2
  clear hi2
  obtain ⟨hcap, hcap2⟩ : M.length ≤ cap ∧ cap ≤ 9223372036854775807 := by
    obtain ⟨_, ⟨h1, _⟩ | ⟨g', cap', cur, h1, _, _, h2, h3, _⟩⟩ := hown
    · cases h1
    · injection h1 with _ _ h1
      subst h1
      exact ⟨h2, h3⟩
  have hgl : g < w.heap.size := by
    obtain ⟨_, ⟨h1, _⟩ | ⟨g', cap', cur, h1, _, hg, _⟩⟩ := hown
    · cases h1
    · injection h1 with h1 _ _
      injection h1 with h1
      injection h1 with h1
      subst h1
      exact World.lt_of_get hg
  have hcell := Lib.hid (fun (W : World) (h : Below w.heap.size w W) (j : Nat) (hj : j < M.length) => (show W.cell? ⟨g, j, none⟩ = some (.string (M.getD j ⟨#[]⟩)) from
    (h.cell (p := ⟨g, j, none⟩) hgl).trans (own_str hown j hj)))
  replace hown := Lib.hid hown
  replace hS := Lib.hid hS
  obtain ⟨n, hn⟩ : ∃ n, M.length = n := ⟨_, rfl⟩
  rw [hn] at hl hcap hcell hown ⊢
  replace hn := Lib.hid hn
  go_enter Tryd.func42, Tryd.ntmps42
  go_wp2_with fail
  go_loop [5] (fun i => ∃ k : Nat, k ≤ n ∧ i = .int .i64 k ∧ Hid (∀ j, j < k → ltS (M.getD j ⟨#[]⟩) s)) (fun i => n - (intOf i).toNat)
  case atStart => exact ⟨0, Nat.zero_le _, rfl, fun j hj => absurd hj (Nat.not_lt_zero j)⟩
  case round =>
    obtain ⟨k, hk, rfl, hP⟩ := hrel
    by_cases hlt : k < n
    · have hc := hcell.out w (Below.refl _ _) k hlt
      obtain ⟨x, hx⟩ : ∃ x, M.getD k ⟨#[]⟩ = x := ⟨_, rfl⟩
      rw [hx] at hc
      cases hq : Op.bytesLess x.toList s.toList with
      | true =>
        have hP2 : Hid (∀ j, j < k + 1 → ltS (M.getD j ⟨#[]⟩) s) := fun j hj => by
          by_cases e : j < k
          · exact hP.out j e
          · obtain rfl : j = k := by omega
            rw [hx]
            rw [ltS_less] at hq
            exact of_decide_eq_true hq
        replace hx := Lib.hid hx
        go_wp2_with fail
        go_round
        case rel => exact ⟨k + 1, by omega, by go_num, hP2.out⟩
        case measure => simp [intOf]; omega
      | false =>
        have hnl : Hid (¬ ltS x s) := by
          show ¬ _
          rw [ltS_less] at hq
          exact of_decide_eq_false hq
        cases he : (x.toList == s.toList) with
        | true =>
          have hA : Hid (Added M M s) := added_same hS.out (by
            have e := bytes_eq.1 he
            rw [← e, ← hx, List.getD_eq_getElem?_getD, List.getElem?_eq_getElem (by rw [hn.out]; exact hlt)]
            exact List.getElem_mem _)
          replace hx := Lib.hid hx
          go_wp2_with fail
          go_ret
          exact ⟨_, rfl, M, by rw [hn.out]; exact hown.out, hA.out, Nat.le_succ _, Below.refl _ _⟩
        | false =>
          have hN : Hid (k < M.length → ltS s (M.getD k ⟨#[]⟩)) := fun _ => by
            rw [hx]
            exact ltS_or hnl.out (fun e => by rw [bytes_eq.2 e] at he; cases he)
          replace hx := Lib.hid hx
          clear hnl
          have hA := Lib.hid (added_ins hS.out (by rw [hn.out]; exact hk) hP.out hN.out)
          clear hN hP
          have hkc : k ≤ cap := by omega
          have hck : ¬ cap = k := by omega
          have hb0 : Hid (Below w.heap.size w w.drew) := (Below.refl _ _).drew
          have hb8 : Hid (Below w.heap.size w (w.alloc (.cells #[.string s] 9)).drew) := ((Below.refl _ _).alloc (Nat.le_refl _) _).drew
          have hb9 : Hid (Below w.heap.size w (w.drew.alloc (.cells #[.string s] 9))) := (Below.refl _ _).drew.alloc (Nat.le_refl _) _
          have hnews : Hid (∀ (W : World), Below w.heap.size w W → ∀ (j : Nat) (u : Value), ((M.take k).map Value.string)[j]? = some u → W.cell? ((⟨g, 0, none⟩ : Addr).add j) = some u) := news_at hcell.out hn.out
          have hnews2 : Hid (∀ (W : World), Below w.heap.size w W → ∀ (j : Nat) (u : Value), ((M.drop k).map Value.string)[j]? = some u → W.cell? ((⟨g, k, none⟩ : Addr).add j) = some u) := news_from hcell.out hn.out
          have hl1 : Hid ((M.take k).length = k) := by show _ = _; rw [List.length_take, hn.out]; omega
          have hl2 : Hid ((M.drop k).length = n - k) := by show _ = _; rw [List.length_drop, hn.out]
          have hlen : Hid ((M.take k ++ s :: M.drop k).length ≤ n + 1) := by show _ ≤ _; rw [List.length_append, List.length_cons, hl1.out, hl2.out]; omega
          go_wp2_with fail
          replace he := Lib.hid he
          replace hq := Lib.hid hq
          go_region_law (first
            | (refine step_append_x 36 rfl rfl (.const (.slice none 0 0)) (.tmp 35) 37 rfl ⟨g, 0, none⟩ k cap (by go_simp) (.slice none 0 0) rfl w.heap.size 9 i0 (.string ⟨#[]⟩) 1 16 Tryd.underlying37 hi.out hz0.out hz1.out hz2.out rfl (by decide) 0 [] (World.ownsRow_nil _ _ _ _) ((M.take k).map .string) (by rw [List.length_map, hl1.out, Nat.mul_one]) (by with_reducible exact hnews.out _ hb0.out) (one_str _) (by unfold maxLen; omega) (by omega) (by with_reducible exact hb0.out.size) ?_
               intro v1 w1 hown1 hgrow
               have hb1 : Hid (Below w.heap.size w w1) := hb0.out.grown hgrow hb0.out.size none_ge
               have hbx1 := Lib.hid (box_grown hgrow)
               replace hown1 := Lib.hid hown1
               clear hgrow)
            | (refine step_append_x 36 rfl rfl (.const (.slice none 0 0)) (.tmp 35) 37 rfl ⟨g, 0, none⟩ k cap (by go_simp) (.slice none 0 0) rfl w.heap.size 9 i0 (.string ⟨#[]⟩) 1 16 Tryd.underlying37 hi.out hz0.out hz1.out hz2.out rfl (by decide) 0 [] (World.ownsRow_nil _ _ _ _) ((M.take k).map .string) (by rw [List.length_map, hl1.out, Nat.mul_one]) (by with_reducible exact hnews.out _ hb8.out) (one_str _) (by unfold maxLen; omega) (by omega) (by with_reducible exact hb8.out.size) ?_
               intro v1 w1 hown1 hgrow
               have hb1 : Hid (Below w.heap.size w w1) := hb8.out.grown hgrow hb8.out.size none_ge
               have hbx1 := Lib.hid (box_grown hgrow)
               replace hown1 := Lib.hid hown1
               clear hgrow)
            | (refine step_append_x 36 rfl rfl (.const (.slice none 0 0)) (.tmp 35) 37 rfl ⟨g, 0, none⟩ k cap (by go_simp) (.slice none 0 0) rfl w.heap.size 9 i0 (.string ⟨#[]⟩) 1 16 Tryd.underlying37 hi.out hz0.out hz1.out hz2.out rfl (by decide) 0 [] (World.ownsRow_nil _ _ _ _) ((M.take k).map .string) (by rw [List.length_map, hl1.out, Nat.mul_one]) (by with_reducible exact hnews.out _ hb9.out) (one_str _) (by unfold maxLen; omega) (by omega) (by with_reducible exact hb9.out.size) ?_
               intro v1 w1 hown1 hgrow
               have hb1 : Hid (Below w.heap.size w w1) := hb9.out.grown hgrow hb9.out.size none_ge
               have hbx1 := Lib.hid (box_grown hgrow)
               replace hown1 := Lib.hid hown1
               clear hgrow)
            | (refine step_append_x 39 rfl rfl (.tmp 36) (.tmp 38) 37 rfl ⟨w1.heap.size, 0, none⟩ 1 1 rfl v1 rfl w.heap.size 9 i0 (.string ⟨#[]⟩) 1 16 Tryd.underlying37 hi.out hz0.out hz1.out hz2.out rfl (by decide) (0 + k) ([] ++ (M.take k).map .string) (own_alloc hown1.out _) [.string s] rfl (box_cell (box_new _ _)) (one_str [s]) (by unfold maxLen; omega) (by omega) (hb1.out.alloc hb1.out.size _).size ?_
               intro v2 w2 hown2 hgrow
               have hb2 : Hid (Below w.heap.size w w2) := (hb1.out.alloc hb1.out.size _).grown hgrow (hb1.out.alloc hb1.out.size _).size (own_ge hown1.out)
               replace hown2 := Lib.hid hown2
               clear hgrow)
            | (refine step_append_x 39 rfl rfl (.tmp 36) (.tmp 38) 37 rfl ⟨w.heap.size, 0, none⟩ 1 1 rfl v1 rfl w.heap.size 9 i0 (.string ⟨#[]⟩) 1 16 Tryd.underlying37 hi.out hz0.out hz1.out hz2.out rfl (by decide) (0 + k) ([] ++ (M.take k).map .string) hown1.out [.string s] rfl (box_cell (hbx1.out _ _ (box_new _ _))) (one_str [s]) (by unfold maxLen; omega) (by omega) hb1.out.size ?_
               intro v2 w2 hown2 hgrow
               have hb2 : Hid (Below w.heap.size w w2) := hb1.out.grown hgrow hb1.out.size (own_ge hown1.out)
               replace hown2 := Lib.hid hown2
               clear hgrow)
            | (refine step_append_x 43 rfl rfl (.tmp 39) (.tmp 42) 37 rfl ⟨g, k, none⟩ (n - k) (cap - k) rfl v2 rfl w.heap.size 9 i0 (.string ⟨#[]⟩) 1 16 Tryd.underlying37 hi.out hz0.out hz1.out hz2.out rfl (by decide) (0 + k + 1) ([] ++ (M.take k).map .string ++ [.string s]) hown2.out ((M.drop k).map .string) (by rw [List.length_map, hl2.out, Nat.mul_one]) (hnews2.out _ hb2.out) (one_str _) (by unfold maxLen; omega) (by omega) hb2.out.size ?_
               intro v3 w3 hown3 hgrow
               have hb3 : Hid (Below w.heap.size w w3) := hb2.out.grown hgrow hb2.out.size (own_ge hown2.out)
               have hown4 := Lib.hid (own_fin hown3 hb hl1.out hl2.out)
               clear hgrow hown3))
          all_goals go_wp2_with fail
          all_goals go_ret
          all_goals exact ⟨_, rfl, _, hown4.out, hA.out, (by rw [hn.out]; exact hlen.out), hb3.out⟩
    · obtain rfl : k = n := by omega
      have hA := Lib.hid (added_ins hS.out (by rw [hn.out]; exact hk) hP.out (fun h => absurd h (by rw [hn.out]; omega)))
      clear hP
      by_cases hck : cap = k
      · subst hck
        have hb0 : Hid (Below w.heap.size w w.drew) := (Below.refl _ _).drew
        have hb8 : Hid (Below w.heap.size w (w.alloc (.cells #[.string s] 9)).drew) := ((Below.refl _ _).alloc (Nat.le_refl _) _).drew
        have hb9 : Hid (Below w.heap.size w (w.drew.alloc (.cells #[.string s] 9))) := (Below.refl _ _).drew.alloc (Nat.le_refl _) _
        have hnews : Hid (∀ (W : World), Below w.heap.size w W → ∀ (j : Nat) (u : Value), ((M.take cap).map Value.string)[j]? = some u → W.cell? ((⟨g, 0, none⟩ : Addr).add j) = some u) := news_at hcell.out hn.out
        have hnews0 : Hid (∀ (W : World) (j : Nat) (u : Value), ((M.drop cap).map Value.string)[j]? = some u → W.cell? ((⟨g, 0, none⟩ : Addr).add j) = some u) := fun W j u hu => by
          rw [List.drop_of_length_le (by rw [hn.out]; exact Nat.le_refl _)] at hu; cases hu
        have hnews2 : Hid (∀ (W : World), Below w.heap.size w W → ∀ (j : Nat) (u : Value), ((M.drop cap).map Value.string)[j]? = some u → W.cell? ((⟨g, cap, none⟩ : Addr).add j) = some u) := news_from hcell.out hn.out
        have hl1 : Hid ((M.take cap).length = cap) := by show _ = _; rw [List.length_take, hn.out]; omega
        have hl2 : Hid ((M.drop cap).length = 0) := by show _ = _; rw [List.length_drop, hn.out, Nat.sub_self]
        have hlen : Hid ((M.take cap ++ s :: M.drop cap).length ≤ cap + 1) := by show _ ≤ _; rw [List.length_append, List.length_cons, hl1.out, hl2.out]; omega
        go_wp2_with fail
        go_region_law (first
          | (refine step_append_x 36 rfl rfl (.const (.slice none 0 0)) (.tmp 35) 37 rfl ⟨g, 0, none⟩ cap cap (by go_simp) (.slice none 0 0) rfl w.heap.size 9 i0 (.string ⟨#[]⟩) 1 16 Tryd.underlying37 hi.out hz0.out hz1.out hz2.out rfl (by decide) 0 [] (World.ownsRow_nil _ _ _ _) ((M.take cap).map .string) (by rw [List.length_map, hl1.out, Nat.mul_one]) (by with_reducible exact hnews.out _ hb0.out) (one_str _) (by unfold maxLen; omega) (by omega) (by with_reducible exact hb0.out.size) ?_
             intro v1 w1 hown1 hgrow
             have hb1 : Hid (Below w.heap.size w w1) := hb0.out.grown hgrow hb0.out.size none_ge
             have hbx1 := Lib.hid (box_grown hgrow)
             replace hown1 := Lib.hid hown1
             clear hgrow)
          | (refine step_append_x 36 rfl rfl (.const (.slice none 0 0)) (.tmp 35) 37 rfl ⟨g, 0, none⟩ cap cap (by go_simp) (.slice none 0 0) rfl w.heap.size 9 i0 (.string ⟨#[]⟩) 1 16 Tryd.underlying37 hi.out hz0.out hz1.out hz2.out rfl (by decide) 0 [] (World.ownsRow_nil _ _ _ _) ((M.take cap).map .string) (by rw [List.length_map, hl1.out, Nat.mul_one]) (by with_reducible exact hnews.out _ hb8.out) (one_str _) (by unfold maxLen; omega) (by omega) (by with_reducible exact hb8.out.size) ?_
             intro v1 w1 hown1 hgrow
             have hb1 : Hid (Below w.heap.size w w1) := hb8.out.grown hgrow hb8.out.size none_ge
             have hbx1 := Lib.hid (box_grown hgrow)
             replace hown1 := Lib.hid hown1
             clear hgrow)
          | (refine step_append_x 36 rfl rfl (.const (.slice none 0 0)) (.tmp 35) 37 rfl ⟨g, 0, none⟩ cap cap (by go_simp) (.slice none 0 0) rfl w.heap.size 9 i0 (.string ⟨#[]⟩) 1 16 Tryd.underlying37 hi.out hz0.out hz1.out hz2.out rfl (by decide) 0 [] (World.ownsRow_nil _ _ _ _) ((M.take cap).map .string) (by rw [List.length_map, hl1.out, Nat.mul_one]) (by with_reducible exact hnews.out _ hb9.out) (one_str _) (by unfold maxLen; omega) (by omega) (by with_reducible exact hb9.out.size) ?_
             intro v1 w1 hown1 hgrow
             have hb1 : Hid (Below w.heap.size w w1) := hb9.out.grown hgrow hb9.out.size none_ge
             have hbx1 := Lib.hid (box_grown hgrow)
             replace hown1 := Lib.hid hown1
             clear hgrow)
          | (refine step_append_x 39 rfl rfl (.tmp 36) (.tmp 38) 37 rfl ⟨w1.heap.size, 0, none⟩ 1 1 rfl v1 rfl w.heap.size 9 i0 (.string ⟨#[]⟩) 1 16 Tryd.underlying37 hi.out hz0.out hz1.out hz2.out rfl (by decide) (0 + cap) ([] ++ (M.take cap).map .string) (own_alloc hown1.out _) [.string s] rfl (box_cell (box_new _ _)) (one_str [s]) (by unfold maxLen; omega) (by omega) (hb1.out.alloc hb1.out.size _).size ?_
             intro v2 w2 hown2 hgrow
             have hb2 : Hid (Below w.heap.size w w2) := (hb1.out.alloc hb1.out.size _).grown hgrow (hb1.out.alloc hb1.out.size _).size (own_ge hown1.out)
             replace hown2 := Lib.hid hown2
             clear hgrow)
          | (refine step_append_x 39 rfl rfl (.tmp 36) (.tmp 38) 37 rfl ⟨w.heap.size, 0, none⟩ 1 1 rfl v1 rfl w.heap.size 9 i0 (.string ⟨#[]⟩) 1 16 Tryd.underlying37 hi.out hz0.out hz1.out hz2.out rfl (by decide) (0 + cap) ([] ++ (M.take cap).map .string) hown1.out [.string s] rfl (box_cell (hbx1.out _ _ (box_new _ _))) (one_str [s]) (by unfold maxLen; omega) (by omega) hb1.out.size ?_
             intro v2 w2 hown2 hgrow
             have hb2 : Hid (Below w.heap.size w w2) := hb1.out.grown hgrow hb1.out.size (own_ge hown1.out)
             replace hown2 := Lib.hid hown2
             clear hgrow)
          | (refine step_append_x 43 rfl rfl (.tmp 39) (.tmp 42) 37 rfl ⟨g, 0, none⟩ 0 0 rfl v2 rfl w.heap.size 9 i0 (.string ⟨#[]⟩) 1 16 Tryd.underlying37 hi.out hz0.out hz1.out hz2.out rfl (by decide) (0 + cap + 1) ([] ++ (M.take cap).map .string ++ [.string s]) hown2.out ((M.drop cap).map .string) (by rw [List.length_map, hl2.out, Nat.mul_one]) (hnews0.out _) (one_str _) (by unfold maxLen; omega) (by omega) hb2.out.size ?_
             intro v3 w3 hown3 hgrow
             have hb3 : Hid (Below w.heap.size w w3) := hb2.out.grown hgrow hb2.out.size (own_ge hown2.out)
             have hown4 := Lib.hid (own_fin hown3 hb hl1.out hl2.out)
             clear hgrow hown3))
        all_goals go_wp2_with fail
        all_goals go_ret
        all_goals exact ⟨_, rfl, _, hown4.out, hA.out, (by rw [hn.out]; exact hlen.out), hb3.out⟩
      · skip
        have hb0 : Hid (Below w.heap.size w w.drew) := (Below.refl _ _).drew
        have hb8 : Hid (Below w.heap.size w (w.alloc (.cells #[.string s] 9)).drew) := ((Below.refl _ _).alloc (Nat.le_refl _) _).drew
        have hb9 : Hid (Below w.heap.size w (w.drew.alloc (.cells #[.string s] 9))) := (Below.refl _ _).drew.alloc (Nat.le_refl _) _
        have hnews : Hid (∀ (W : World), Below w.heap.size w W → ∀ (j : Nat) (u : Value), ((M.take k).map Value.string)[j]? = some u → W.cell? ((⟨g, 0, none⟩ : Addr).add j) = some u) := news_at hcell.out hn.out
        have hnews2 : Hid (∀ (W : World), Below w.heap.size w W → ∀ (j : Nat) (u : Value), ((M.drop k).map Value.string)[j]? = some u → W.cell? ((⟨g, k, none⟩ : Addr).add j) = some u) := news_from hcell.out hn.out
        have hl1 : Hid ((M.take k).length = k) := by show _ = _; rw [List.length_take, hn.out]; omega
        have hl2 : Hid ((M.drop k).length = 0) := by show _ = _; rw [List.length_drop, hn.out, Nat.sub_self]
        have hlen : Hid ((M.take k ++ s :: M.drop k).length ≤ k + 1) := by show _ ≤ _; rw [List.length_append, List.length_cons, hl1.out, hl2.out]; omega
        go_wp2_with fail
        go_region_law (first
          | (refine step_append_x 36 rfl rfl (.const (.slice none 0 0)) (.tmp 35) 37 rfl ⟨g, 0, none⟩ k cap (by go_simp) (.slice none 0 0) rfl w.heap.size 9 i0 (.string ⟨#[]⟩) 1 16 Tryd.underlying37 hi.out hz0.out hz1.out hz2.out rfl (by decide) 0 [] (World.ownsRow_nil _ _ _ _) ((M.take k).map .string) (by rw [List.length_map, hl1.out, Nat.mul_one]) (by with_reducible exact hnews.out _ hb0.out) (one_str _) (by unfold maxLen; omega) (by omega) (by with_reducible exact hb0.out.size) ?_
             intro v1 w1 hown1 hgrow
             have hb1 : Hid (Below w.heap.size w w1) := hb0.out.grown hgrow hb0.out.size none_ge
             have hbx1 := Lib.hid (box_grown hgrow)
             replace hown1 := Lib.hid hown1
             clear hgrow)
          | (refine step_append_x 36 rfl rfl (.const (.slice none 0 0)) (.tmp 35) 37 rfl ⟨g, 0, none⟩ k cap (by go_simp) (.slice none 0 0) rfl w.heap.size 9 i0 (.string ⟨#[]⟩) 1 16 Tryd.underlying37 hi.out hz0.out hz1.out hz2.out rfl (by decide) 0 [] (World.ownsRow_nil _ _ _ _) ((M.take k).map .string) (by rw [List.length_map, hl1.out, Nat.mul_one]) (by with_reducible exact hnews.out _ hb8.out) (one_str _) (by unfold maxLen; omega) (by omega) (by with_reducible exact hb8.out.size) ?_
             intro v1 w1 hown1 hgrow
             have hb1 : Hid (Below w.heap.size w w1) := hb8.out.grown hgrow hb8.out.size none_ge
             have hbx1 := Lib.hid (box_grown hgrow)
             replace hown1 := Lib.hid hown1
             clear hgrow)
          | (refine step_append_x 36 rfl rfl (.const (.slice none 0 0)) (.tmp 35) 37 rfl ⟨g, 0, none⟩ k cap (by go_simp) (.slice none 0 0) rfl w.heap.size 9 i0 (.string ⟨#[]⟩) 1 16 Tryd.underlying37 hi.out hz0.out hz1.out hz2.out rfl (by decide) 0 [] (World.ownsRow_nil _ _ _ _) ((M.take k).map .string) (by rw [List.length_map, hl1.out, Nat.mul_one]) (by with_reducible exact hnews.out _ hb9.out) (one_str _) (by unfold maxLen; omega) (by omega) (by with_reducible exact hb9.out.size) ?_
             intro v1 w1 hown1 hgrow
             have hb1 : Hid (Below w.heap.size w w1) := hb9.out.grown hgrow hb9.out.size none_ge
             have hbx1 := Lib.hid (box_grown hgrow)
             replace hown1 := Lib.hid hown1
             clear hgrow)
          | (refine step_append_x 39 rfl rfl (.tmp 36) (.tmp 38) 37 rfl ⟨w1.heap.size, 0, none⟩ 1 1 rfl v1 rfl w.heap.size 9 i0 (.string ⟨#[]⟩) 1 16 Tryd.underlying37 hi.out hz0.out hz1.out hz2.out rfl (by decide) (0 + k) ([] ++ (M.take k).map .string) (own_alloc hown1.out _) [.string s] rfl (box_cell (box_new _ _)) (one_str [s]) (by unfold maxLen; omega) (by omega) (hb1.out.alloc hb1.out.size _).size ?_
             intro v2 w2 hown2 hgrow
             have hb2 : Hid (Below w.heap.size w w2) := (hb1.out.alloc hb1.out.size _).grown hgrow (hb1.out.alloc hb1.out.size _).size (own_ge hown1.out)
             replace hown2 := Lib.hid hown2
             clear hgrow)
          | (refine step_append_x 39 rfl rfl (.tmp 36) (.tmp 38) 37 rfl ⟨w.heap.size, 0, none⟩ 1 1 rfl v1 rfl w.heap.size 9 i0 (.string ⟨#[]⟩) 1 16 Tryd.underlying37 hi.out hz0.out hz1.out hz2.out rfl (by decide) (0 + k) ([] ++ (M.take k).map .string) hown1.out [.string s] rfl (box_cell (hbx1.out _ _ (box_new _ _))) (one_str [s]) (by unfold maxLen; omega) (by omega) hb1.out.size ?_
             intro v2 w2 hown2 hgrow
             have hb2 : Hid (Below w.heap.size w w2) := hb1.out.grown hgrow hb1.out.size (own_ge hown1.out)
             replace hown2 := Lib.hid hown2
             clear hgrow)
          | (refine step_append_x 43 rfl rfl (.tmp 39) (.tmp 42) 37 rfl ⟨g, k, none⟩ 0 (cap - k) rfl v2 rfl w.heap.size 9 i0 (.string ⟨#[]⟩) 1 16 Tryd.underlying37 hi.out hz0.out hz1.out hz2.out rfl (by decide) (0 + k + 1) ([] ++ (M.take k).map .string ++ [.string s]) hown2.out ((M.drop k).map .string) (by rw [List.length_map, hl2.out, Nat.mul_one]) (hnews2.out _ hb2.out) (one_str _) (by unfold maxLen; omega) (by omega) hb2.out.size ?_
             intro v3 w3 hown3 hgrow
             have hb3 : Hid (Below w.heap.size w w3) := hb2.out.grown hgrow hb2.out.size (own_ge hown2.out)
             have hown4 := Lib.hid (own_fin hown3 hb hl1.out hl2.out)
             clear hgrow hown3))
        all_goals go_wp2_with fail
        all_goals go_ret
        all_goals exact ⟨_, rfl, _, hown4.out, hA.out, (by rw [hn.out]; exact hlen.out), hb3.out⟩
end Go.Proofs.YtmomdehilfnpcaaDoor
