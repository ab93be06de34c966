/-
  The walk of the reference's Lex. Condition: the text is shorter than 2^47 bytes.
-/
import Derived.Test.YtkmafbcgdhhenabDoorLxLawJoins
import Derived.Test.YtkmafbcgdhhenabDoorLxR5
import Derived.Laws.DeepStrings4
namespace Go.Proofs.YtkmafbcgdhhenabDoor
open Go.RowKit Go.Lx

theorem run_from {f : UInt8 → Bool} (s : ByteArray) (p q : Nat) (hp : p ≤ q) (hq : q ≤ s.size) (h1 : ∀ j, p ≤ j → j < q → f (byteAt s j) = true) (h2 : q < s.size → f (byteAt s q) = false) : runL f (s.data.toList.drop p) = q - p := by
  have e : ∀ j, (s.data.toList.drop p).getD j 0 = byteAt s (p + j) := fun j => by
    unfold byteAt
    rw [List.getD_eq_getElem?_getD, List.getElem?_drop, List.getD_eq_getElem?_getD]
  refine runL_at _ (q - p) (by rw [List.length_drop, size_data]; omega) (fun j hj => ?_) (fun h => ?_)
  · rw [e]; exact h1 _ (by omega) (by omega)
  · rw [List.length_drop, size_data] at h
    rw [e, show p + (q - p) = q from by omega]
    exact h2 (by omega)
theorem drop_cons (s : ByteArray) (p : Nat) (h : p < s.size) : s.data.toList.drop p = s[p] :: s.data.toList.drop (p + 1) := by
  have h2 : p < s.data.toList.length := by rw [size_data]; exact h
  rw [List.drop_eq_getElem_cons h2]; rfl
theorem slice_mid (s : ByteArray) (p q : Nat) (hp : p ≤ q) (hq : q ≤ s.size) (w : World) : (Instr.slice 9 (.string s) (some (.int .i64 (p : Int))) (some (.int .i64 (q : Int))) none).run Tryd.prog w = .ok (.string (s.extract p q)) w := by
  rw [run_slice_string_if (P := Tryd.prog) w 9 s .i64 .i64 (p : Int) (q : Int) Tryd.underlying9, if_pos (by omega), if_pos (by omega)]
  rfl
theorem info_ref : (Tryd.prog.info? 51).map (fun i => (i.zero, i.size, i.bytes)) = some (some (.agg #[.int .i64 0, .string ⟨#[]⟩, .int .i64 0]), 3, 32) := by kernel_rfl
theorem toks_ofR {W : World} {base : Nat} {v : Value} {l : List Tok} (h : W.ownsRow base 51 3 v l.length (cellsOf l)) :
    ∃ A c, v = .slice A l.length c ∧ Toks W W.heap.size A l ∧ l.length ≤ c ∧ c ≤ 9223372036854775807 ∧ (A = none → c = 0) := by
  obtain ⟨_, h1 | ⟨g, cap, cur, rfl, _, hg, h2, h3, h4, h5⟩⟩ := h
  · obtain ⟨rfl, h0⟩ := h1
    rw [h0]
    exact ⟨none, 0, rfl, by rw [List.length_eq_zero_iff.1 h0]; exact Toks.nil _ _ _, Nat.le_refl _, by decide, fun _ => rfl⟩
  · refine ⟨some ⟨g, 0, none⟩, cap, rfl, fun _ => ⟨g, 0, rfl, (Array.getElem?_eq_some_iff.1 hg).1, fun j hj => ?_⟩, h2, h3, fun h => by cases h⟩
    have key : ∀ i u, (cellsOf l)[i]? = some u → W.cell? ⟨g, i, none⟩ = some u := fun i u hu => by
      have hi : i < l.length * 3 := by
        have := (List.getElem?_eq_some_iff.1 hu).1
        rwa [cellsOf_length] at this
      have e : cur[i]? = some u := by
        rw [← h5, List.getElem?_take_of_lt hi, Array.getElem?_toList] at hu
        exact hu
      rw [cell_of_row W g i cur _ _ hg]
      exact e
    obtain ⟨c0, c1, c2⟩ := cellsOf_get l j hj
    rw [Nat.zero_add]
    exact ⟨key _ _ c0, key _ _ c1, key _ _ c2⟩

theorem word_exit (s : ByteArray) (p q : Nat) (hlt : p < s.size) (hpq : p ≤ q) (hq : q ≤ s.size) (hw : isLetter s[p] = true ∨ isDigit s[p] = true) (hok : ∀ j, p ≤ j → j < q → runF s[p] (byteAt s j) = true) (hex : q < s.size → runF s[p] (byteAt s q) = false) :
    p < q ∧ lexL (s.data.toList.drop p) = (wordL (s.extract p q).data.toList).bind fun t => (lexL (s.data.toList.drop q)).map (t :: ·) := by
  have hpq2 : p < q := by
    rcases Nat.lt_or_ge p q with h | h
    · exact h
    · have e : q = p := by omega
      subst e
      have := hex hlt
      rw [← get_byte s _ hlt] at this
      unfold runF at this
      rcases hw with h | h <;> simp [h] at this
  refine ⟨hpq2, ?_⟩
  have hrun := run_from (f := runF s[p]) s p q hpq hq hok hex
  have hs := step_word (r := s.data.toList.drop (p + 1)) hw
  rw [← drop_cons s p hlt, hrun, List.drop_drop, show p + (q - p) = q from by omega] at hs
  rw [hs, Lib.extract_data]
theorem word_none {S R R' x : List UInt8} {l : List Tok} (h : lexL S = (lexL R).map (l ++ ·)) (hs : lexL R = (wordL x).bind fun t => (lexL R').map (t :: ·)) (hx : wordL x = none) : lexL S = none := by rw [h, hs, hx]; rfl
theorem word_some {S R R' x : List UInt8} {l : List Tok} {t : Tok} (h : lexL S = (lexL R).map (l ++ ·)) (hs : lexL R = (wordL x).bind fun t => (lexL R').map (t :: ·)) (hx : wordL x = some t) : lexL S = (lexL R').map ((l ++ [t]) ++ ·) := by
  rw [h, hs, hx]
  show ((lexL R').map (t :: ·)).map (l ++ ·) = _
  cases lexL R' <;> simp

set_option maxRecDepth 100000 in
set_option maxHeartbeats 40000000 in
theorem reflex_any (s : ByteArray) (w : World) (hm : s.size ≤ 140737488355328) :
    Calls Tryd.prog 11 #[.string s] w (LexPost s w) := by
  by_cases hbig : 65536 < s.size
  · go_enter Tryd.func11, Tryd.ntmps11
    go_wp2_with fail
    go_ret2
    exact ⟨Below.refl _ _, .inl ⟨hbig, rfl⟩⟩
  obtain ⟨i0, hi, hi2⟩ := Option.map_eq_some_iff.1 info_ref
  obtain ⟨hz0, hz1, hz2⟩ : i0.zero = some (.agg #[.int .i64 0, .string ⟨#[]⟩, .int .i64 0]) ∧ i0.size = 3 ∧ i0.bytes = 32 := by
    injection hi2 with h1 h2; injection h2 with h2 h3; exact ⟨h1, h2, h3⟩
  replace hi := Lib.hid hi
  replace hz0 := Lib.hid hz0
  replace hz1 := Lib.hid hz1
  replace hz2 := Lib.hid hz2
  clear hi2
  go_enter Tryd.func11, Tryd.ntmps11
  go_wp2_with fail
  go_loopw [4, 5] (fun v i wr => ∃ (p : Nat) (l : List Tok) (v' : Value), i = .int .i64 p ∧ p ≤ s.size ∧ v = v' ∧ Hid (wr.ownsRow w.heap.size 51 3 v' l.length (cellsOf l)) ∧ Hid (lexL s.data.toList = (lexL (s.data.toList.drop p)).map (l ++ ·)) ∧ l.length ≤ p ∧ Hid (Below w.heap.size w wr)) (fun _ i _ => s.size - (intOf i).toNat)
  case atStart => exact ⟨0, [], _, rfl, Nat.zero_le _, rfl, World.ownsRow_nil _ _ _ _, by show lexL s.data.toList = _; rw [List.drop_zero]; cases lexL s.data.toList <;> simp, Nat.le_refl _, Below.refl _ _⟩
  case round =>
    obtain ⟨p, l, v', rfl, hp, rfl, hown, hlex, hll, hB⟩ := hrel
    by_cases hlt : p < s.size
    case neg =>
      obtain rfl : p = s.size := by omega
      have hfin : Hid (lexL s.data.toList = some l) := by
        show lexL s.data.toList = some l
        rw [hlex.out, List.drop_of_length_le (by rw [size_data]; exact Nat.le_refl _)]
        simp [lexL_nil]
      obtain ⟨A, c, rfl, hT, hc1, hc2, hc3⟩ := toks_ofR hown.out
      replace hT := Lib.hid hT
      replace hc3 := Lib.hid hc3
      clear hown hlex
      go_wp2_with fail
      go_ret2
      exact ⟨hB.out, .inr (.inr ⟨by omega, l, A, c, hfin.out, rfl, hT.out, hc1, hc2, hc3.out⟩)⟩
    have hdc := drop_cons s p hlt
    have hgb := get_byte s p hlt
    have hc256 : s[p].toNat < 256 := s[p].toNat_lt
    by_cases hsp : s[p] = 32 ∨ s[p] = 10
    · have hnx : Hid (lexL s.data.toList = (lexL (s.data.toList.drop (p + 1))).map (l ++ ·)) := by
        show lexL s.data.toList = _
        rw [hlex.out, hdc, lexL_blank _ hsp.symm]
      clear hdc hgb hlex
      rcases hsp with hsp | hsp
      · have e0 : (s[p].toNat : Int) = 32 := by rw [hsp]; rfl
        clear hsp
        go_wp2_with fail
        go_roundw
        case rel => exact ⟨p + 1, l, _, by go_num, by omega, rfl, hown, hnx, by omega, hB⟩
        case measure => simp [intOf]; omega
      · have e0 : (s[p].toNat : Int) = 10 := by rw [hsp]; rfl
        clear hsp
        go_wp2_with fail
        go_roundw
        case rel => exact ⟨p + 1, l, _, by go_num, by omega, rfl, hown, hnx, by omega, hB⟩
        case measure => simp [intOf]; omega
    have g32 : ((s[p].toNat : Int) == 32) = false := byte_ne (c := s[p]) (n := 32) fun e => hsp (.inl e)
    have g10 : ((s[p].toNat : Int) == 10) = false := byte_ne (c := s[p]) (n := 10) fun e => hsp (.inr e)
    by_cases h35 : s[p] = 35
    · have e0 : (s[p].toNat : Int) = 35 := by rw [h35]; rfl
      have hstep : Hid (lexL (s.data.toList.drop p) = lexL ((s.data.toList.drop p).drop (runL inLine (s.data.toList.drop p)))) := by
        show _ = _
        have := step_note (r := s.data.toList.drop (p + 1))
        rw [← h35, ← hdc] at this
        exact this
      clear hsp h35 hdc hgb g32 g10
      go_wp2_with fail
      go_loop [5] (fun i => ∃ q : Nat, p ≤ q ∧ q ≤ s.size ∧ i = .int .i64 q ∧ Hid (∀ j, p ≤ j → j < q → inLine (byteAt s j) = true)) (fun i => s.size - (intOf i).toNat)
      case atStart => exact ⟨p, Nat.le_refl _, hp, rfl, fun j h1 h2 => by omega⟩
      case round =>
        obtain ⟨q, hpq, hq, rfl, hok⟩ := hrel
        by_cases hqs : q < s.size
        · have hgq := get_byte s q hqs
          have hq256 : s[q].toNat < 256 := s[q].toNat_lt
          cases hin : inLine s[q] with
          | true =>
            have hnx : Hid (∀ j, p ≤ j → j < q + 1 → inLine (byteAt s j) = true) := fun j h1 h2 => by
              by_cases e : j < q
              · exact hok.out j h1 e
              · obtain rfl : j = q := by omega
                rw [← hgq]; exact hin
            have hz : ((s[q].toNat : Int) != 10) = true := by
              unfold inLine at hin; rw [decide_eq_true_eq] at hin; rw [bne_iff_ne]; omega
            clear hgq hin hok
            go_wp2_with fail
            go_round
            case rel => exact ⟨q + 1, by omega, by omega, by go_num, hnx⟩
            case measure => simp [intOf]; omega
          | false =>
            have hrun := run_from (f := inLine) s p q hpq hq hok.out (fun _ => by rw [← hgq]; exact hin)
            have hnx : Hid (lexL s.data.toList = (lexL (s.data.toList.drop q)).map (l ++ ·)) := by
              show lexL s.data.toList = _
              rw [hlex.out, hstep.out, hrun, List.drop_drop, show p + (q - p) = q from by omega]
            have hz : ((s[q].toNat : Int) != 10) = false := by
              unfold inLine at hin; rw [decide_eq_false_iff_not] at hin; rw [bne_eq_false_iff_eq]; omega
            have hpq2 : p < q := by
              rcases Nat.lt_or_ge p q with h | h
              · exact h
              · obtain rfl : q = p := by omega
                rw [e0] at hz
                simp at hz
            clear hgq hin hok hrun hstep hlex
            go_wp2_with fail
            go_roundw
            case rel => exact ⟨q, l, _, by go_num, hq, rfl, hown, hnx, by omega, hB⟩
            case measure => simp [intOf]; omega
        · obtain rfl : q = s.size := by omega
          have hrun := run_from (f := inLine) s p s.size hpq hq hok.out (fun h => by omega)
          have hnx : Hid (lexL s.data.toList = (lexL (s.data.toList.drop s.size)).map (l ++ ·)) := by
            show lexL s.data.toList = _
            rw [hlex.out, hstep.out, hrun, List.drop_drop, show p + (s.size - p) = s.size from by omega]
          clear hok hrun hstep hlex
          go_wp2_with fail
          go_roundw
          case rel => exact ⟨s.size, l, _, by go_num, Nat.le_refl _, rfl, hown, hnx, by omega, hB⟩
          case measure => simp [intOf]; omega
    have g35 : ((s[p].toNat : Int) == 35) = false := byte_ne (c := s[p]) (n := 35) h35
    by_cases hw : isLetter s[p] = true ∨ isDigit s[p] = true
    · cases hl : isLetter s[p] with
      | true =>
        have kl : ∀ W, Calls Tryd.prog 26 #[.int .u8 (s[p].toNat : Int)] W fun e w' => e = .returned (.bool true) ∧ W = w' := fun W => by have := refletter_any s[p] W; rwa [hl] at this
        replace kl := Lib.hid kl
        have hwe := Lib.hid (fun q h1 h2 h3 h4 => word_exit s p q hlt h1 h2 hw h3 h4)
        have hl9 := Lib.hid hl
        clear hw hsp h35 hdc hgb hl
        go_wp2_with (first | (go_at_call 26; refine (kl.out _).mono ?_; rintro e w2 ⟨rfl, rfl⟩))
        go_loop [5] (fun i => ∃ q : Nat, p ≤ q ∧ q ≤ s.size ∧ i = .int .i64 q ∧ Hid (∀ j, p ≤ j → j < q → runF s[p] (byteAt s j) = true)) (fun i => s.size - (intOf i).toNat)
        case atStart => exact ⟨p, Nat.le_refl _, hp, rfl, fun j h1 h2 => by omega⟩
        case round =>
          obtain ⟨q, hpq, hq, rfl, hok⟩ := hrel
          by_cases hqs : q < s.size
          · have hq256 : s[q].toNat < 256 := s[q].toNat_lt
            have kdq := refdigit_any s[q]
            have hdef : runF s[p] (byteAt s q) = (isDigit s[q] || (isLetter s[q] && isLetter s[p])) := by rw [← get_byte s q hqs]; rfl
            rw [hl9.out] at hdef
            cases hdq : isDigit s[q] with
            | true =>
              rw [hdq] at kdq hdef
              clear hdq
              have hnx : Hid (∀ j, p ≤ j → j < q + 1 → runF s[p] (byteAt s j) = true) := fun j h1 h2 => by
                by_cases e : j < q
                · exact hok.out j h1 e
                · obtain rfl : j = q := by omega
                  rw [hdef]; rfl
              replace kdq := Lib.hid kdq
              clear hok hdef hwe
              go_wp2_with (first | (go_at_call 26; refine (refletter_any _ _).mono ?_; rintro e w2 ⟨rfl, rfl⟩; fail) | (go_at_call 27; refine (kdq.out _).mono ?_; rintro e w2 ⟨rfl, rfl⟩))
              go_round
              case rel => exact ⟨q + 1, by omega, by omega, by go_num, hnx⟩
              case measure => simp [intOf]; omega
            | false =>
              cases hlq : isLetter s[q] with
              | true =>
                rw [hdq] at kdq hdef
                clear hdq
                rw [hlq] at hdef
                have hlq9 := Lib.hid hlq
                clear hlq
                have hnx : Hid (∀ j, p ≤ j → j < q + 1 → runF s[p] (byteAt s j) = true) := fun j h1 h2 => by
                  by_cases e : j < q
                  · exact hok.out j h1 e
                  · obtain rfl : j = q := by omega
                    rw [hdef]; rfl
                replace kdq := Lib.hid kdq
                clear hok hdef hwe
                go_wp2_with (first | (go_at_call 26; refine (refletter_any _ _).mono ?_; rintro e w2 ⟨rfl, rfl⟩; (first | rw [hlq9.out] | rw [hl9.out])) | (go_at_call 27; refine (kdq.out _).mono ?_; rintro e w2 ⟨rfl, rfl⟩))
                go_round
                case rel => exact ⟨q + 1, by omega, by omega, by go_num, hnx⟩
                case measure => simp [intOf]; omega
              | false =>
                rw [hdq] at kdq hdef
                clear hdq
                rw [hlq] at hdef
                have hlq9 := Lib.hid hlq
                clear hlq
                have hdef2 : runF s[p] (byteAt s q) = false := by rw [hdef]; rfl
                replace kdq := Lib.hid kdq
                clear hdef
                obtain ⟨hpq2, hs2⟩ := hwe.out q hpq hq hok.out (fun _ => hdef2)
                have kw := fun W => word_any (s.extract p q) W (by rw [ByteArray.size_extract]; omega)
                cases hx : wordL (s.extract p q).data.toList with
                | none =>
                  have hbad := Lib.hid (word_none hlex.out hs2 hx)
                  have hV : wordV (s.extract p q) = .tuple #[.agg #[.int .i64 2, .string (s.extract p q), .int .i64 0], .bool false] := by unfold wordV; rw [hx]
                  rw [hV] at kw
                  replace kw := Lib.hid kw
                  clear hV hx hs2 hlex hok hwe hdef2
                  go_wp2_with (first | (go_at_call 26; refine (refletter_any _ _).mono ?_; rintro e w2 ⟨rfl, rfl⟩; (first | rw [hlq9.out] | rw [hl9.out])) | (go_at_call 27; refine (kdq.out _).mono ?_; rintro e w2 ⟨rfl, rfl⟩) | (go_at_call 28; refine (kw.out _).mono ?_; rintro e W1 ⟨rfl, hb1⟩; have hb8 := hB.out.trans (hb1.mono hB.out.size); have hb9 := Lib.hid (hb8.alloc hb8.size (.cells #[.int .i64 2, .string (s.extract p q), .int .i64 0] 51)); clear hb8; clear hb1))
                  go_ret2
                  exact ⟨hb9.out, .inr (.inl ⟨by omega, hbad.out, rfl⟩)⟩
                | some t =>
                  obtain ⟨tk, tt, tn⟩ := t
                  have hnx := Lib.hid (word_some hlex.out hs2 hx)
                  have hV : wordV (s.extract p q) = .tuple #[.agg #[.int .i64 tk, .string (strOf tt), .int .i64 tn], .bool true] := by unfold wordV; rw [hx]; rfl
                  rw [hV] at kw
                  replace kw := Lib.hid kw
                  clear hV hx hs2 hlex hok hwe hdef2
                  go_wp2_with (first | (go_at_call 26; refine (refletter_any _ _).mono ?_; rintro e w2 ⟨rfl, rfl⟩; (first | rw [hlq9.out] | rw [hl9.out])) | (go_at_call 27; refine (kdq.out _).mono ?_; rintro e w2 ⟨rfl, rfl⟩) | (go_at_call 28; refine (kw.out _).mono ?_; rintro e W1 ⟨rfl, hb1⟩; have hb8 : Below W1.heap.size W1 ((W1.alloc (.cells #[.int .i64 tk, .string (strOf tt), .int .i64 tn] 51)).alloc (.cells #[.int .i64 tk, .string (strOf tt), .int .i64 tn] 51)) := (later_alloc _ _).alloc (by simp) _; have hown1 := Lib.hid (own_later (own_later hown.out hb1) hb8); have hb7 : Hid (Below w.heap.size w ((W1.alloc (.cells #[.int .i64 tk, .string (strOf tt), .int .i64 tn] 51)).alloc (.cells #[.int .i64 tk, .string (strOf tt), .int .i64 tn] 51))) := (hB.out.trans (hb1.mono hB.out.size)).trans (hb8.mono (Nat.le_trans hB.out.size hb1.size)); have hbx := Lib.hid (BoxT.new (W1.alloc (.cells #[.int .i64 tk, .string (strOf tt), .int .i64 tn] 51)) 51 (.int .i64 tk) (.string (strOf tt)) (.int .i64 tn)); clear hb8 hown; clear hb1) | (at_builtin; refine wpList_append_own _ rfl _ _ 27 rfl w.heap.size 51 i0 (.agg #[.int .i64 0, .string ⟨#[]⟩, .int .i64 0]) 3 32 Tryd.underlying27 hi.out hz0.out hz1.out hz2.out rfl (by decide) _ _ _ rfl hown1.out ⟨W1.heap.size + 1, 0, none⟩ 1 1 [.int .i64 tk, .string (strOf tt), .int .i64 tn] rfl rfl ?c1 ?c2 ?c3 ?c4 ?c5 ?_))
                  case c1 =>
                    intro j u hj
                    have e : (W1.alloc (.cells #[.int .i64 tk, .string (strOf tt), .int .i64 tn] 51)).heap.size = W1.heap.size + 1 := by simp
                    have x0 := hbx.out.c0
                    have x1 := hbx.out.c1
                    have x2 := hbx.out.c2
                    rw [e] at x0 x1 x2
                    match j, hj with
                    | 0, hj => cases hj; exact x0
                    | 1, hj => cases hj; exact x1
                    | 2, hj => cases hj; exact x2
                    | j + 3, hj => simp at hj
                  case c2 =>
                    intro u hu
                    simp at hu
                    rcases hu with rfl | rfl | rfl <;> rfl
                  case c3 => unfold maxLen; omega
                  case c4 => omega
                  case c5 => exact hb7.out.size
                  · intro v'' w1 hown' hgrow _
                    have hown2 : Hid (w1.ownsRow w.heap.size 51 3 v'' (l ++ [(⟨tk, tt, tn⟩ : Tok)]).length (cellsOf (l ++ [⟨tk, tt, tn⟩]))) := by
                      show w1.ownsRow _ _ _ _ _ _
                      rw [cellsOf_snoc, List.length_append]
                      exact hown'
                    have hb3 : Hid (Below w.heap.size w w1) := hb7.out.grown hgrow hb7.out.size (own_block hown1.out)
                    clear hown' hgrow
                    go_wp2_with fail
                    go_roundw
                    case rel => exact ⟨q, l ++ [⟨tk, tt, tn⟩], _, by go_num, hq, rfl, hown2, hnx, by rw [List.length_append]; simp; omega, hb3⟩
                    case measure => simp [intOf]; omega
          · obtain rfl : q = s.size := by omega
            obtain ⟨hpq2, hs2⟩ := hwe.out s.size hpq hq hok.out (fun h => by omega)
            have kw := fun W => word_any (s.extract p s.size) W (by rw [ByteArray.size_extract]; omega)
            cases hx : wordL (s.extract p s.size).data.toList with
            | none =>
              have hbad := Lib.hid (word_none hlex.out hs2 hx)
              have hV : wordV (s.extract p s.size) = .tuple #[.agg #[.int .i64 2, .string (s.extract p s.size), .int .i64 0], .bool false] := by unfold wordV; rw [hx]
              rw [hV] at kw
              replace kw := Lib.hid kw
              clear hV hx hs2 hlex hok hwe
              go_wp2_with (first | (go_at_call 28; refine (kw.out _).mono ?_; rintro e W1 ⟨rfl, hb1⟩; have hb8 := hB.out.trans (hb1.mono hB.out.size); have hb9 := Lib.hid (hb8.alloc hb8.size (.cells #[.int .i64 2, .string (s.extract p s.size), .int .i64 0] 51)); clear hb8; clear hb1))
              go_ret2
              exact ⟨hb9.out, .inr (.inl ⟨by omega, hbad.out, rfl⟩)⟩
            | some t =>
              obtain ⟨tk, tt, tn⟩ := t
              have hnx := Lib.hid (word_some hlex.out hs2 hx)
              have hV : wordV (s.extract p s.size) = .tuple #[.agg #[.int .i64 tk, .string (strOf tt), .int .i64 tn], .bool true] := by unfold wordV; rw [hx]; rfl
              rw [hV] at kw
              replace kw := Lib.hid kw
              clear hV hx hs2 hlex hok hwe
              go_wp2_with (first | (go_at_call 28; refine (kw.out _).mono ?_; rintro e W1 ⟨rfl, hb1⟩; have hb8 : Below W1.heap.size W1 ((W1.alloc (.cells #[.int .i64 tk, .string (strOf tt), .int .i64 tn] 51)).alloc (.cells #[.int .i64 tk, .string (strOf tt), .int .i64 tn] 51)) := (later_alloc _ _).alloc (by simp) _; have hown1 := Lib.hid (own_later (own_later hown.out hb1) hb8); have hb7 : Hid (Below w.heap.size w ((W1.alloc (.cells #[.int .i64 tk, .string (strOf tt), .int .i64 tn] 51)).alloc (.cells #[.int .i64 tk, .string (strOf tt), .int .i64 tn] 51))) := (hB.out.trans (hb1.mono hB.out.size)).trans (hb8.mono (Nat.le_trans hB.out.size hb1.size)); have hbx := Lib.hid (BoxT.new (W1.alloc (.cells #[.int .i64 tk, .string (strOf tt), .int .i64 tn] 51)) 51 (.int .i64 tk) (.string (strOf tt)) (.int .i64 tn)); clear hb8 hown; clear hb1) | (at_builtin; refine wpList_append_own _ rfl _ _ 27 rfl w.heap.size 51 i0 (.agg #[.int .i64 0, .string ⟨#[]⟩, .int .i64 0]) 3 32 Tryd.underlying27 hi.out hz0.out hz1.out hz2.out rfl (by decide) _ _ _ rfl hown1.out ⟨W1.heap.size + 1, 0, none⟩ 1 1 [.int .i64 tk, .string (strOf tt), .int .i64 tn] rfl rfl ?c1 ?c2 ?c3 ?c4 ?c5 ?_))
              case c1 =>
                intro j u hj
                have e : (W1.alloc (.cells #[.int .i64 tk, .string (strOf tt), .int .i64 tn] 51)).heap.size = W1.heap.size + 1 := by simp
                have x0 := hbx.out.c0
                have x1 := hbx.out.c1
                have x2 := hbx.out.c2
                rw [e] at x0 x1 x2
                match j, hj with
                | 0, hj => cases hj; exact x0
                | 1, hj => cases hj; exact x1
                | 2, hj => cases hj; exact x2
                | j + 3, hj => simp at hj
              case c2 =>
                intro u hu
                simp at hu
                rcases hu with rfl | rfl | rfl <;> rfl
              case c3 => unfold maxLen; omega
              case c4 => omega
              case c5 => exact hb7.out.size
              · intro v'' w1 hown' hgrow _
                have hown2 : Hid (w1.ownsRow w.heap.size 51 3 v'' (l ++ [(⟨tk, tt, tn⟩ : Tok)]).length (cellsOf (l ++ [⟨tk, tt, tn⟩]))) := by
                  show w1.ownsRow _ _ _ _ _ _
                  rw [cellsOf_snoc, List.length_append]
                  exact hown'
                have hb3 : Hid (Below w.heap.size w w1) := hb7.out.grown hgrow hb7.out.size (own_block hown1.out)
                clear hown' hgrow
                go_wp2_with fail
                go_roundw
                case rel => exact ⟨s.size, l ++ [⟨tk, tt, tn⟩], _, by go_num, hq, rfl, hown2, hnx, by rw [List.length_append]; simp; omega, hb3⟩
                case measure => simp [intOf]; omega
      | false =>
        have hd : isDigit s[p] = true := by
          rcases hw with h | h
          · rw [hl] at h; cases h
          · exact h
        have kl : ∀ W, Calls Tryd.prog 26 #[.int .u8 (s[p].toNat : Int)] W fun e w' => e = .returned (.bool false) ∧ W = w' := fun W => by have := refletter_any s[p] W; rwa [hl] at this
        replace kl := Lib.hid kl
        have kd : ∀ W, Calls Tryd.prog 27 #[.int .u8 (s[p].toNat : Int)] W fun e w' => e = .returned (.bool true) ∧ W = w' := fun W => by have := refdigit_any s[p] W; rwa [hd] at this
        replace kd := Lib.hid kd
        have hwe := Lib.hid (fun q h1 h2 h3 h4 => word_exit s p q hlt h1 h2 hw h3 h4)
        have hl9 := Lib.hid hl
        clear hw hsp h35 hdc hgb hl hd
        go_wp2_with (first | (go_at_call 26; refine (kl.out _).mono ?_; rintro e w2 ⟨rfl, rfl⟩) | (go_at_call 27; refine (kd.out _).mono ?_; rintro e w2 ⟨rfl, rfl⟩))
        go_loop [5] (fun i => ∃ q : Nat, p ≤ q ∧ q ≤ s.size ∧ i = .int .i64 q ∧ Hid (∀ j, p ≤ j → j < q → runF s[p] (byteAt s j) = true)) (fun i => s.size - (intOf i).toNat)
        case atStart => exact ⟨p, Nat.le_refl _, hp, rfl, fun j h1 h2 => by omega⟩
        case round =>
          obtain ⟨q, hpq, hq, rfl, hok⟩ := hrel
          by_cases hqs : q < s.size
          · have hq256 : s[q].toNat < 256 := s[q].toNat_lt
            have kdq := refdigit_any s[q]
            have hdef : runF s[p] (byteAt s q) = (isDigit s[q] || (isLetter s[q] && isLetter s[p])) := by rw [← get_byte s q hqs]; rfl
            rw [hl9.out] at hdef
            cases hdq : isDigit s[q] with
            | true =>
              rw [hdq] at kdq hdef
              clear hdq
              have hnx : Hid (∀ j, p ≤ j → j < q + 1 → runF s[p] (byteAt s j) = true) := fun j h1 h2 => by
                by_cases e : j < q
                · exact hok.out j h1 e
                · obtain rfl : j = q := by omega
                  rw [hdef]; rfl
              replace kdq := Lib.hid kdq
              clear hok hdef hwe
              go_wp2_with (first | (go_at_call 26; refine (refletter_any _ _).mono ?_; rintro e w2 ⟨rfl, rfl⟩; fail) | (go_at_call 27; refine (kdq.out _).mono ?_; rintro e w2 ⟨rfl, rfl⟩))
              go_round
              case rel => exact ⟨q + 1, by omega, by omega, by go_num, hnx⟩
              case measure => simp [intOf]; omega
            | false =>
              cases hlq : isLetter s[q] with
              | true =>
                rw [hdq] at kdq hdef
                clear hdq
                rw [hlq] at hdef
                have hlq9 := Lib.hid hlq
                clear hlq
                have hdef2 : runF s[p] (byteAt s q) = false := by rw [hdef]; rfl
                replace kdq := Lib.hid kdq
                clear hdef
                obtain ⟨hpq2, hs2⟩ := hwe.out q hpq hq hok.out (fun _ => hdef2)
                have kw := fun W => word_any (s.extract p q) W (by rw [ByteArray.size_extract]; omega)
                cases hx : wordL (s.extract p q).data.toList with
                | none =>
                  have hbad := Lib.hid (word_none hlex.out hs2 hx)
                  have hV : wordV (s.extract p q) = .tuple #[.agg #[.int .i64 2, .string (s.extract p q), .int .i64 0], .bool false] := by unfold wordV; rw [hx]
                  rw [hV] at kw
                  replace kw := Lib.hid kw
                  clear hV hx hs2 hlex hok hwe hdef2
                  go_wp2_with (first | (go_at_call 26; refine (refletter_any _ _).mono ?_; rintro e w2 ⟨rfl, rfl⟩; (first | rw [hlq9.out] | rw [hl9.out])) | (go_at_call 27; refine (kdq.out _).mono ?_; rintro e w2 ⟨rfl, rfl⟩) | (go_at_call 28; refine (kw.out _).mono ?_; rintro e W1 ⟨rfl, hb1⟩; have hb8 := hB.out.trans (hb1.mono hB.out.size); have hb9 := Lib.hid (hb8.alloc hb8.size (.cells #[.int .i64 2, .string (s.extract p q), .int .i64 0] 51)); clear hb8; clear hb1))
                  go_ret2
                  exact ⟨hb9.out, .inr (.inl ⟨by omega, hbad.out, rfl⟩)⟩
                | some t =>
                  obtain ⟨tk, tt, tn⟩ := t
                  have hnx := Lib.hid (word_some hlex.out hs2 hx)
                  have hV : wordV (s.extract p q) = .tuple #[.agg #[.int .i64 tk, .string (strOf tt), .int .i64 tn], .bool true] := by unfold wordV; rw [hx]; rfl
                  rw [hV] at kw
                  replace kw := Lib.hid kw
                  clear hV hx hs2 hlex hok hwe hdef2
                  go_wp2_with (first | (go_at_call 26; refine (refletter_any _ _).mono ?_; rintro e w2 ⟨rfl, rfl⟩; (first | rw [hlq9.out] | rw [hl9.out])) | (go_at_call 27; refine (kdq.out _).mono ?_; rintro e w2 ⟨rfl, rfl⟩) | (go_at_call 28; refine (kw.out _).mono ?_; rintro e W1 ⟨rfl, hb1⟩; have hb8 : Below W1.heap.size W1 ((W1.alloc (.cells #[.int .i64 tk, .string (strOf tt), .int .i64 tn] 51)).alloc (.cells #[.int .i64 tk, .string (strOf tt), .int .i64 tn] 51)) := (later_alloc _ _).alloc (by simp) _; have hown1 := Lib.hid (own_later (own_later hown.out hb1) hb8); have hb7 : Hid (Below w.heap.size w ((W1.alloc (.cells #[.int .i64 tk, .string (strOf tt), .int .i64 tn] 51)).alloc (.cells #[.int .i64 tk, .string (strOf tt), .int .i64 tn] 51))) := (hB.out.trans (hb1.mono hB.out.size)).trans (hb8.mono (Nat.le_trans hB.out.size hb1.size)); have hbx := Lib.hid (BoxT.new (W1.alloc (.cells #[.int .i64 tk, .string (strOf tt), .int .i64 tn] 51)) 51 (.int .i64 tk) (.string (strOf tt)) (.int .i64 tn)); clear hb8 hown; clear hb1) | (at_builtin; refine wpList_append_own _ rfl _ _ 27 rfl w.heap.size 51 i0 (.agg #[.int .i64 0, .string ⟨#[]⟩, .int .i64 0]) 3 32 Tryd.underlying27 hi.out hz0.out hz1.out hz2.out rfl (by decide) _ _ _ rfl hown1.out ⟨W1.heap.size + 1, 0, none⟩ 1 1 [.int .i64 tk, .string (strOf tt), .int .i64 tn] rfl rfl ?c1 ?c2 ?c3 ?c4 ?c5 ?_))
                  case c1 =>
                    intro j u hj
                    have e : (W1.alloc (.cells #[.int .i64 tk, .string (strOf tt), .int .i64 tn] 51)).heap.size = W1.heap.size + 1 := by simp
                    have x0 := hbx.out.c0
                    have x1 := hbx.out.c1
                    have x2 := hbx.out.c2
                    rw [e] at x0 x1 x2
                    match j, hj with
                    | 0, hj => cases hj; exact x0
                    | 1, hj => cases hj; exact x1
                    | 2, hj => cases hj; exact x2
                    | j + 3, hj => simp at hj
                  case c2 =>
                    intro u hu
                    simp at hu
                    rcases hu with rfl | rfl | rfl <;> rfl
                  case c3 => unfold maxLen; omega
                  case c4 => omega
                  case c5 => exact hb7.out.size
                  · intro v'' w1 hown' hgrow _
                    have hown2 : Hid (w1.ownsRow w.heap.size 51 3 v'' (l ++ [(⟨tk, tt, tn⟩ : Tok)]).length (cellsOf (l ++ [⟨tk, tt, tn⟩]))) := by
                      show w1.ownsRow _ _ _ _ _ _
                      rw [cellsOf_snoc, List.length_append]
                      exact hown'
                    have hb3 : Hid (Below w.heap.size w w1) := hb7.out.grown hgrow hb7.out.size (own_block hown1.out)
                    clear hown' hgrow
                    go_wp2_with fail
                    go_roundw
                    case rel => exact ⟨q, l ++ [⟨tk, tt, tn⟩], _, by go_num, hq, rfl, hown2, hnx, by rw [List.length_append]; simp; omega, hb3⟩
                    case measure => simp [intOf]; omega
              | false =>
                rw [hdq] at kdq hdef
                clear hdq
                rw [hlq] at hdef
                have hlq9 := Lib.hid hlq
                clear hlq
                have hdef2 : runF s[p] (byteAt s q) = false := by rw [hdef]; rfl
                replace kdq := Lib.hid kdq
                clear hdef
                obtain ⟨hpq2, hs2⟩ := hwe.out q hpq hq hok.out (fun _ => hdef2)
                have kw := fun W => word_any (s.extract p q) W (by rw [ByteArray.size_extract]; omega)
                cases hx : wordL (s.extract p q).data.toList with
                | none =>
                  have hbad := Lib.hid (word_none hlex.out hs2 hx)
                  have hV : wordV (s.extract p q) = .tuple #[.agg #[.int .i64 2, .string (s.extract p q), .int .i64 0], .bool false] := by unfold wordV; rw [hx]
                  rw [hV] at kw
                  replace kw := Lib.hid kw
                  clear hV hx hs2 hlex hok hwe hdef2
                  go_wp2_with (first | (go_at_call 26; refine (refletter_any _ _).mono ?_; rintro e w2 ⟨rfl, rfl⟩; (first | rw [hlq9.out] | rw [hl9.out])) | (go_at_call 27; refine (kdq.out _).mono ?_; rintro e w2 ⟨rfl, rfl⟩) | (go_at_call 28; refine (kw.out _).mono ?_; rintro e W1 ⟨rfl, hb1⟩; have hb8 := hB.out.trans (hb1.mono hB.out.size); have hb9 := Lib.hid (hb8.alloc hb8.size (.cells #[.int .i64 2, .string (s.extract p q), .int .i64 0] 51)); clear hb8; clear hb1))
                  go_ret2
                  exact ⟨hb9.out, .inr (.inl ⟨by omega, hbad.out, rfl⟩)⟩
                | some t =>
                  obtain ⟨tk, tt, tn⟩ := t
                  have hnx := Lib.hid (word_some hlex.out hs2 hx)
                  have hV : wordV (s.extract p q) = .tuple #[.agg #[.int .i64 tk, .string (strOf tt), .int .i64 tn], .bool true] := by unfold wordV; rw [hx]; rfl
                  rw [hV] at kw
                  replace kw := Lib.hid kw
                  clear hV hx hs2 hlex hok hwe hdef2
                  go_wp2_with (first | (go_at_call 26; refine (refletter_any _ _).mono ?_; rintro e w2 ⟨rfl, rfl⟩; (first | rw [hlq9.out] | rw [hl9.out])) | (go_at_call 27; refine (kdq.out _).mono ?_; rintro e w2 ⟨rfl, rfl⟩) | (go_at_call 28; refine (kw.out _).mono ?_; rintro e W1 ⟨rfl, hb1⟩; have hb8 : Below W1.heap.size W1 ((W1.alloc (.cells #[.int .i64 tk, .string (strOf tt), .int .i64 tn] 51)).alloc (.cells #[.int .i64 tk, .string (strOf tt), .int .i64 tn] 51)) := (later_alloc _ _).alloc (by simp) _; have hown1 := Lib.hid (own_later (own_later hown.out hb1) hb8); have hb7 : Hid (Below w.heap.size w ((W1.alloc (.cells #[.int .i64 tk, .string (strOf tt), .int .i64 tn] 51)).alloc (.cells #[.int .i64 tk, .string (strOf tt), .int .i64 tn] 51))) := (hB.out.trans (hb1.mono hB.out.size)).trans (hb8.mono (Nat.le_trans hB.out.size hb1.size)); have hbx := Lib.hid (BoxT.new (W1.alloc (.cells #[.int .i64 tk, .string (strOf tt), .int .i64 tn] 51)) 51 (.int .i64 tk) (.string (strOf tt)) (.int .i64 tn)); clear hb8 hown; clear hb1) | (at_builtin; refine wpList_append_own _ rfl _ _ 27 rfl w.heap.size 51 i0 (.agg #[.int .i64 0, .string ⟨#[]⟩, .int .i64 0]) 3 32 Tryd.underlying27 hi.out hz0.out hz1.out hz2.out rfl (by decide) _ _ _ rfl hown1.out ⟨W1.heap.size + 1, 0, none⟩ 1 1 [.int .i64 tk, .string (strOf tt), .int .i64 tn] rfl rfl ?c1 ?c2 ?c3 ?c4 ?c5 ?_))
                  case c1 =>
                    intro j u hj
                    have e : (W1.alloc (.cells #[.int .i64 tk, .string (strOf tt), .int .i64 tn] 51)).heap.size = W1.heap.size + 1 := by simp
                    have x0 := hbx.out.c0
                    have x1 := hbx.out.c1
                    have x2 := hbx.out.c2
                    rw [e] at x0 x1 x2
                    match j, hj with
                    | 0, hj => cases hj; exact x0
                    | 1, hj => cases hj; exact x1
                    | 2, hj => cases hj; exact x2
                    | j + 3, hj => simp at hj
                  case c2 =>
                    intro u hu
                    simp at hu
                    rcases hu with rfl | rfl | rfl <;> rfl
                  case c3 => unfold maxLen; omega
                  case c4 => omega
                  case c5 => exact hb7.out.size
                  · intro v'' w1 hown' hgrow _
                    have hown2 : Hid (w1.ownsRow w.heap.size 51 3 v'' (l ++ [(⟨tk, tt, tn⟩ : Tok)]).length (cellsOf (l ++ [⟨tk, tt, tn⟩]))) := by
                      show w1.ownsRow _ _ _ _ _ _
                      rw [cellsOf_snoc, List.length_append]
                      exact hown'
                    have hb3 : Hid (Below w.heap.size w w1) := hb7.out.grown hgrow hb7.out.size (own_block hown1.out)
                    clear hown' hgrow
                    go_wp2_with fail
                    go_roundw
                    case rel => exact ⟨q, l ++ [⟨tk, tt, tn⟩], _, by go_num, hq, rfl, hown2, hnx, by rw [List.length_append]; simp; omega, hb3⟩
                    case measure => simp [intOf]; omega
          · obtain rfl : q = s.size := by omega
            obtain ⟨hpq2, hs2⟩ := hwe.out s.size hpq hq hok.out (fun h => by omega)
            have kw := fun W => word_any (s.extract p s.size) W (by rw [ByteArray.size_extract]; omega)
            cases hx : wordL (s.extract p s.size).data.toList with
            | none =>
              have hbad := Lib.hid (word_none hlex.out hs2 hx)
              have hV : wordV (s.extract p s.size) = .tuple #[.agg #[.int .i64 2, .string (s.extract p s.size), .int .i64 0], .bool false] := by unfold wordV; rw [hx]
              rw [hV] at kw
              replace kw := Lib.hid kw
              clear hV hx hs2 hlex hok hwe
              go_wp2_with (first | (go_at_call 28; refine (kw.out _).mono ?_; rintro e W1 ⟨rfl, hb1⟩; have hb8 := hB.out.trans (hb1.mono hB.out.size); have hb9 := Lib.hid (hb8.alloc hb8.size (.cells #[.int .i64 2, .string (s.extract p s.size), .int .i64 0] 51)); clear hb8; clear hb1))
              go_ret2
              exact ⟨hb9.out, .inr (.inl ⟨by omega, hbad.out, rfl⟩)⟩
            | some t =>
              obtain ⟨tk, tt, tn⟩ := t
              have hnx := Lib.hid (word_some hlex.out hs2 hx)
              have hV : wordV (s.extract p s.size) = .tuple #[.agg #[.int .i64 tk, .string (strOf tt), .int .i64 tn], .bool true] := by unfold wordV; rw [hx]; rfl
              rw [hV] at kw
              replace kw := Lib.hid kw
              clear hV hx hs2 hlex hok hwe
              go_wp2_with (first | (go_at_call 28; refine (kw.out _).mono ?_; rintro e W1 ⟨rfl, hb1⟩; have hb8 : Below W1.heap.size W1 ((W1.alloc (.cells #[.int .i64 tk, .string (strOf tt), .int .i64 tn] 51)).alloc (.cells #[.int .i64 tk, .string (strOf tt), .int .i64 tn] 51)) := (later_alloc _ _).alloc (by simp) _; have hown1 := Lib.hid (own_later (own_later hown.out hb1) hb8); have hb7 : Hid (Below w.heap.size w ((W1.alloc (.cells #[.int .i64 tk, .string (strOf tt), .int .i64 tn] 51)).alloc (.cells #[.int .i64 tk, .string (strOf tt), .int .i64 tn] 51))) := (hB.out.trans (hb1.mono hB.out.size)).trans (hb8.mono (Nat.le_trans hB.out.size hb1.size)); have hbx := Lib.hid (BoxT.new (W1.alloc (.cells #[.int .i64 tk, .string (strOf tt), .int .i64 tn] 51)) 51 (.int .i64 tk) (.string (strOf tt)) (.int .i64 tn)); clear hb8 hown; clear hb1) | (at_builtin; refine wpList_append_own _ rfl _ _ 27 rfl w.heap.size 51 i0 (.agg #[.int .i64 0, .string ⟨#[]⟩, .int .i64 0]) 3 32 Tryd.underlying27 hi.out hz0.out hz1.out hz2.out rfl (by decide) _ _ _ rfl hown1.out ⟨W1.heap.size + 1, 0, none⟩ 1 1 [.int .i64 tk, .string (strOf tt), .int .i64 tn] rfl rfl ?c1 ?c2 ?c3 ?c4 ?c5 ?_))
              case c1 =>
                intro j u hj
                have e : (W1.alloc (.cells #[.int .i64 tk, .string (strOf tt), .int .i64 tn] 51)).heap.size = W1.heap.size + 1 := by simp
                have x0 := hbx.out.c0
                have x1 := hbx.out.c1
                have x2 := hbx.out.c2
                rw [e] at x0 x1 x2
                match j, hj with
                | 0, hj => cases hj; exact x0
                | 1, hj => cases hj; exact x1
                | 2, hj => cases hj; exact x2
                | j + 3, hj => simp at hj
              case c2 =>
                intro u hu
                simp at hu
                rcases hu with rfl | rfl | rfl <;> rfl
              case c3 => unfold maxLen; omega
              case c4 => omega
              case c5 => exact hb7.out.size
              · intro v'' w1 hown' hgrow _
                have hown2 : Hid (w1.ownsRow w.heap.size 51 3 v'' (l ++ [(⟨tk, tt, tn⟩ : Tok)]).length (cellsOf (l ++ [⟨tk, tt, tn⟩]))) := by
                  show w1.ownsRow _ _ _ _ _ _
                  rw [cellsOf_snoc, List.length_append]
                  exact hown'
                have hb3 : Hid (Below w.heap.size w w1) := hb7.out.grown hgrow hb7.out.size (own_block hown1.out)
                clear hown' hgrow
                go_wp2_with fail
                go_roundw
                case rel => exact ⟨s.size, l ++ [⟨tk, tt, tn⟩], _, by go_num, hq, rfl, hown2, hnx, by rw [List.length_append]; simp; omega, hb3⟩
                case measure => simp [intOf]; omega
    · have hl0 : isLetter s[p] = false := by simpa using fun h => hw (.inl h)
      have hd0 : isDigit s[p] = false := by simpa using fun h => hw (.inr h)
      have kl := refletter_any s[p] wr
      have kd := refdigit_any s[p] wr
      rw [hl0] at kl
      rw [hd0] at kd
      replace kl := Lib.hid kl
      replace kd := Lib.hid kd
      obtain ⟨m1, m2⟩ := step_mark (r := s.data.toList.drop (p + 1)) h35 (fun e => hsp (.inl e)) (fun e => hsp (.inr e)) hl0 hd0
      rw [← hdc] at m1 m2
      have km := mark_any (s.extract p s.size) wr
      rw [show (s.extract p s.size).data.toList = s.data.toList.drop p from Lib.extract_to_end s p] at km
      have hln : (s.data.toList.drop p).length = s.size - p := by rw [List.length_drop, size_data]
      rw [hln] at m2
      replace km := Lib.hid km
      clear hw hsp h35 hdc hgb hl0 hd0 hln
      by_cases hme : markL (s.data.toList.drop p) = []
      · have hnone := Lib.hid (lex_bad hlex.out (m1 hme))
        rw [hme] at km
        have hq : (strOf []).toList.isEmpty = true := by rw [toList_data, data_strOf]; rfl
        clear m1 m2 hme hlex
        generalize strOf [] = X0 at km hq
        go_wp2_with (first | (go_at_call 26; refine kl.out.mono ?_; rintro e w' ⟨rfl, rfl⟩) | (go_at_call 27; refine kd.out.mono ?_; rintro e w' ⟨rfl, rfl⟩) | (go_at_call 29; refine km.out.mono ?_; rintro e W1 ⟨rfl, hb1⟩))
        replace hb1 := Lib.hid hb1
        go_wp2_with fail
        go_ret2
        exact ⟨hB.out.trans (hb1.out.mono hB.out.size), .inr (.inl ⟨by omega, hnone.out, rfl⟩)⟩
      · obtain ⟨m3, m4⟩ := m2 hme
        have hnx : Hid (lexL s.data.toList = (lexL (s.data.toList.drop (p + (markL (s.data.toList.drop p)).length))).map ((l ++ [⟨4, markL (s.data.toList.drop p), 0⟩]) ++ ·)) := by
          show lexL s.data.toList = _
          rw [← List.drop_drop]
          exact lex_tok hlex.out m3
        have hm1 : 1 ≤ (markL (s.data.toList.drop p)).length := by
          cases h : markL (s.data.toList.drop p) with
          | nil => exact absurd h hme
          | cons => simp
        have hq : (strOf (markL (s.data.toList.drop p))).toList.isEmpty = false := by
          rw [toList_data, data_strOf]; exact List.isEmpty_eq_false_iff.2 hme
        have hsz : (strOf (markL (s.data.toList.drop p))).size = (markL (s.data.toList.drop p)).length := size_strOf _
        clear m1 m2 m3 hme hlex
        generalize markL (s.data.toList.drop p) = m at m4 km hnx hm1 hq hsz
        rw [← hsz] at hnx m4 hm1
        go_wp2_with (first | (go_at_call 26; refine kl.out.mono ?_; rintro e w' ⟨rfl, rfl⟩) | (go_at_call 27; refine kd.out.mono ?_; rintro e w' ⟨rfl, rfl⟩) | (go_at_call 29; refine km.out.mono ?_; rintro e W1 ⟨rfl, hb1⟩; have hb2 : Below W1.heap.size W1 (W1.alloc (.cells #[.int .i64 4, .string (strOf m), .int .i64 0] 51)) := later_alloc _ _; have hown1 := Lib.hid (own_later (own_later hown.out hb1) hb2); have hb9 : Hid (Below w.heap.size w (W1.alloc (.cells #[.int .i64 4, .string (strOf m), .int .i64 0] 51))) := (hB.out.trans (hb1.mono hB.out.size)).trans (hb2.mono (Nat.le_trans hB.out.size hb1.size)); have hbx := Lib.hid (BoxT.new W1 51 (.int .i64 4) (.string (strOf m)) (.int .i64 0)); clear hb1 hb2 hown) | (at_builtin; refine wpList_append_own _ rfl _ _ 27 rfl w.heap.size 51 i0 (.agg #[.int .i64 0, .string ⟨#[]⟩, .int .i64 0]) 3 32 Tryd.underlying27 hi.out hz0.out hz1.out hz2.out rfl (by decide) _ _ _ rfl hown1.out ⟨W1.heap.size, 0, none⟩ 1 1 [.int .i64 4, .string (strOf m), .int .i64 0] rfl rfl ?c1 ?c2 ?c3 ?c4 ?c5 ?_))
        case c1 =>
          intro j u hj
          have x0 := hbx.out.c0
          have x1 := hbx.out.c1
          have x2 := hbx.out.c2
          match j, hj with
          | 0, hj => cases hj; exact x0
          | 1, hj => cases hj; exact x1
          | 2, hj => cases hj; exact x2
          | j + 3, hj => simp at hj
        case c2 =>
          intro u hu
          simp at hu
          rcases hu with rfl | rfl | rfl <;> rfl
        case c3 => unfold maxLen; omega
        case c4 => omega
        case c5 => exact hb9.out.size
        · intro v'' w1 hown' hgrow _
          have hown2 : Hid (w1.ownsRow w.heap.size 51 3 v'' (l ++ [(⟨4, m, 0⟩ : Tok)]).length (cellsOf (l ++ [⟨4, m, 0⟩]))) := by
            show w1.ownsRow _ _ _ _ _ _
            rw [cellsOf_snoc, List.length_append]
            exact hown'
          have hb3 : Hid (Below w.heap.size w w1) := hb9.out.grown hgrow hb9.out.size (own_block hown1.out)
          clear hown' hgrow
          go_wp2_with fail
          go_roundw
          case rel => exact ⟨p + (strOf m).size, l ++ [⟨4, m, 0⟩], _, by go_num, by omega, rfl, hown2, hnx, by rw [List.length_append]; simp; omega, hb3⟩
          case measure => simp [intOf]; omega
end Go.Proofs.YtkmafbcgdhhenabDoor
