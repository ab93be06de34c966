/-
  The examples of chapter 6: what is told of their texts. No condition.
  Many declarations of one kind:
  Programs in memory:
-/
import Derived.Test.YtjnfhebbphdchaaGreatDoorPgSpec
import Derived.Test.YtjnfhebbphdchaaGreatDoorPaMath
import Derived.Test.YtjnfhebbphdchaaGreatDoorPaPr
namespace Go.Proofs.YtjnfhebbphdchaaGreatDoor.Pg
open Go.Tm Go.Lx Go.Proofs.YtjnfhebbphdchaaGreatDoor.Pa
theorem qkZ {p : P} (h : Sound p) : qaw P0 (pieces p) = .inl { p with body := T0 } := by
 have h1 := h.li
 have h2 := h.lc
 have h3 := h.ld
 unfold pieces
 rw [qbt _ _ (qeQ p.ins P0 h.ins rfl rfl (by show 0 + _ <= _; omega))]
 rw [qbt _ _ (qcV p.cells _ h.cells rfl (by show 0 + _ <= _; omega))]
 rw [qeR p.defs _ h.defs (by show 0 + _ <= _; omega)]
 rfl
def s1 (c : UInt8) : ByteArray := ⟨#[c]⟩
def hiS : ByteArray := ⟨#[72, 105]⟩
def loE : ByteArray := ⟨#[76, 111]⟩
def exI : D := ⟨s1 120, loE, 0⟩
def exC : D := ⟨s1 99, hiS, 5⟩
def exF : Df := ⟨s1 102, .node 3 (s1 121) 0 [vT 121]⟩
def exB : Go.Tm.T := .node 11 ⟨#[]⟩ 0 [vT 99, .node 4 ⟨#[]⟩ 0 [vT 102, vT 120]]
def exP : P := ⟨[exI], [exC], [exF], exB⟩
theorem wx : wordB (s1 120) = true := by decide +kernel
theorem wc : wordB (s1 99) = true := by decide +kernel
theorem wf : wordB (s1 102) = true := by decide +kernel
theorem wy : wordB (s1 121) = true := by decide +kernel
theorem wlo : wordB loE = true := by decide +kernel
theorem whi : wordB hiS = true := by decide +kernel
theorem okI : okD 1 exI := ⟨wx, wlo, Int.le_refl _, (by decide : (0 : Int) < 1)⟩
theorem okC : okD 2147483648 exC := ⟨wc, whi, (by decide : (0 : Int) <= 5), (by decide : (5 : Int) < 2147483648)⟩
theorem rtF : Rt exF.t := .fn _ _ wy (.var _ wy)
theorem rtB : Rt exB := .put _ _ (.var _ wc) (.app _ _ (.var _ wf) (.var _ wx))
theorem okF : okDf exF := ⟨wf, rfl, qgg rtF (by decide) (by decide)⟩
theorem qjK : YtjnfhebbphdchaaGreatDoor.qai exB = true := qgg rtB (by decide) (by decide)
theorem qhk {α : Type} {Q : α -> Prop} {x : α} (h : Q x) : ∀ y ∈ [x], Q y := fun y hy => by rw [List.mem_singleton.1 hy]; exact h
theorem qcA : Sound exP := ⟨by decide, by decide, by decide, qhk okI, qhk okC, qhk okF, qjK⟩
def bodyL : List Tok := [nTok [99], mTok [58, 61], nTok [102], nTok [120]]
theorem bodyT : Pa.Told bodyL exB 0 := qlG 100 (by rfl) (by decide +kernel) (by decide +kernel) qjK
def numL1 : List Tok := [⟨2, [49], 1⟩]
theorem num1T : Pa.Told numL1 (dT 1) 0 := qlG 60 (by rfl) (by decide +kernel) (by decide +kernel) (by decide +kernel)
def px1 : ByteArray := ⟨#[105, 110, 112, 117, 116, 32, 120, 32, 58, 32, 76, 111, 32, 46, 32, 99, 101, 108, 108, 32, 99, 32, 58, 32, 72, 105, 32, 61, 32, 53, 32, 46, 32, 100, 101, 102, 32, 102, 32, 61, 32, 102, 117, 110, 32, 121, 32, 61, 62, 32, 121, 32, 46, 32, 99, 32, 58, 61, 32, 102, 32, 120]⟩
def px2 : ByteArray := ⟨#[99, 101, 108, 108, 32, 99, 32, 58, 32, 72, 105, 32, 61, 32, 53, 32, 46, 32, 105, 110, 112, 117, 116, 32, 120, 32, 58, 32, 76, 111, 32, 46, 32, 49]⟩
def px3 : ByteArray := ⟨#[100, 101, 102, 32, 102, 32, 61, 32, 49, 32, 46, 32, 50]⟩
def px4 : ByteArray := ⟨#[105, 110, 112, 117, 116, 32, 120, 32, 58, 32, 76, 111, 32, 46]⟩
def px5 : ByteArray := ⟨#[105, 110, 112, 117, 116, 32, 120, 32, 58, 32, 76, 111, 32, 46, 10, 99, 101, 108, 108, 32, 99, 32, 58, 32, 72, 105, 32, 61, 32, 53, 32, 46, 10, 100, 101, 102, 32, 102, 32, 61, 32, 102, 117, 110, 32, 121, 32, 61, 62, 32, 121, 32, 46, 10, 99, 32, 58, 61, 32, 40, 32, 102, 32, 120, 32, 41, 10]⟩
theorem ps1 : qaZ px1 = .inl exP := by
 have e : lexL px1.data.toList = some (qcy (pieces exP) bodyL) := by decide +kernel
 rw [qcz (by decide) e]
 have e2 : cutL (qcy (pieces exP) bodyL) = pieces exP ++ [bodyL] := by decide +kernel
 have et := qcS bodyT
 unfold progT
 rw [e2, if_neg (by decide), List.dropLast_concat, qkZ qcA, List.getLastD_concat, et]
 rfl
theorem ps2 : qaZ px2 = .inr 2 := by
 have e : lexL px2.data.toList = some (qcy [cellL exC, inL exI] numL1) := by decide +kernel
 rw [qcz (by decide) e]
 have e2 : cutL (qcy [cellL exC, inL exI] numL1) = [cellL exC, inL exI] ++ [numL1] := by decide +kernel
 unfold progT
 rw [e2, if_neg (by decide), List.dropLast_concat]
 have h1 := qcV [exC] P0 (qhk okC) rfl (by decide)
 have h2 := qbt (p := P0) [cellL exC] [inL exI] h1
 rw [show [cellL exC, inL exI] = [cellL exC] ++ [inL exI] from rfl, h2]
 rfl
theorem ps3 : qaZ px3 = .inr 2 := by
 have e : lexL px3.data.toList = some (qcy [kDef :: nm (s1 102) :: mTok [61] :: numL1] [⟨2, [50], 2⟩]) := by decide +kernel
 rw [qcz (by decide) e]
 have e2 : cutL (qcy [kDef :: nm (s1 102) :: mTok [61] :: numL1] [⟨2, [50], 2⟩]) = [kDef :: nm (s1 102) :: mTok [61] :: numL1] ++ [[⟨2, [50], 2⟩]] := by decide +kernel
 unfold progT
 rw [e2, if_neg (by decide), List.dropLast_concat, qaw]
 have e1 : qaL P0 (kDef :: nm (s1 102) :: mTok [61] :: numL1) = .inr 2 := by
   have et := qcS num1T
   unfold qaL
   dsimp only
   rw [if_neg (by decide), if_neg (by decide), if_pos (show kDef.text = [100, 101, 102] from rfl), if_pos (show fitsF (List.take 2 (nm (s1 102) :: mTok [61] :: numL1)) [.nm, .tx [61]] = true from rfl)]
   show (if (tell numL1).2 ≠ 0 then _ else if (tell numL1).1.kind ≠ 3 then _ else _) = _
   rw [et, if_neg (by simp), if_pos (by simp [dT, T.kind])]
 rw [e1]
theorem ps4 : qaZ px4 = .inr 2 := by
 have e : lexL px4.data.toList = some (qcy [inL exI] []) := by decide +kernel
 rw [qcz (by decide) e]
 have e2 : cutL (qcy [inL exI] []) = [inL exI] ++ [[]] := by decide +kernel
 have et := qcS ex4
 unfold progT
 have h1 : qaw P0 [inL exI] = .inl { P0 with ins := P0.ins ++ [exI] } := qeQ [exI] P0 (qhk okI) rfl rfl (by decide)
 rw [e2, if_neg (by decide), List.dropLast_concat, h1, List.getLastD_concat, et]
 rfl
theorem qjL : qar exP = true := qaE.2 ⟨qcA, by decide +kernel⟩
theorem qpd : qbI exP = px5 := by
 rw [qdj qjL]
 have : textL 10 exP = px5.data.toList := by decide +kernel
 rw [this, X.qbx]
theorem qqN : sizeP exP = 7 := by decide
theorem qqO : qar P0 = false := by decide +kernel
theorem qqP : qbI P0 = ⟨#[]⟩ := qdk qqO
theorem qeT {c : UInt8} (hc : c = 10 ∨ c = 32) (b : List UInt8) : ∀ (ls : List (List Tok)), (∀ l ∈ ls, l ≠ [] /\ Go.Lx.qao l = true) -> lexL (ls.flatMap (lineS c) ++ b) = (lexL b).map (ls.flatten ++ ·)
 | [], _ => by cases hb : lexL b <;> simp [hb]
 | l :: ls, h => by
   have he : ends c := by rcases hc with rfl | rfl <;> exact ⟨by decide, by decide, by decide, by decide⟩
   obtain ⟨h1, h2⟩ := h l (by simp)
   rw [List.flatMap_cons]
   have ih := qeT hc b ls (fun x hx => h x (by simp [hx]))
   unfold lineS at ih ⊢
   rw [List.append_assoc, List.append_assoc, List.singleton_append, qgK c he _ l h1 h2, qfc c hc, ih]
   cases lexL b <;> simp
def nmV (i : Nat) : ByteArray := ⟨#[118, UInt8.ofNat (97 + i / 10), UInt8.ofNat (48 + i % 10)]⟩
def loS : ByteArray := ⟨#[76, 111]⟩
def xS : ByteArray := ⟨#[120]⟩
theorem qpe (i : Nat) (h : i < 36) : wordB (nmV i) = true := by
 have : ∀ j : Fin 36, wordB (nmV j.val) = true := by decide +kernel
 exact this ⟨i, h⟩
theorem qpf : wordB loS = true := by decide +kernel
theorem qrp : wordB xS = true := by decide +kernel
def idT : Go.Tm.T := .node 3 xS 0 [.node 2 xS 0 []]
theorem id_rt : Rt idT := .fn _ _ qrp (.var _ qrp)
theorem qmh : YtjnfhebbphdchaaGreatDoor.qai idT = true := qgg id_rt (by decide) (by decide)
def insN (n : Nat) : List D := (List.range n).map fun i => ⟨nmV i, loS, 0⟩
def qcB (n : Nat) : List D := (List.range n).map fun i => ⟨nmV i, loS, 3⟩
def defsN (n : Nat) : List Df := (List.range n).map fun i => ⟨nmV i, idT⟩
def manyP (k n : Nat) : P := if k = 0 then ⟨insN n, [], [], zeroT⟩ else if k = 1 then ⟨[], qcB n, [], zeroT⟩ else ⟨[], [], defsN n, zeroT⟩
theorem qhl {n : Nat} (h : n <= 36) : ∀ d ∈ insN n, okD 1 d := fun d hd => by
 obtain ⟨i, hi, rfl⟩ := List.mem_map.1 hd
 rw [List.mem_range] at hi
 exact ⟨qpe i (by omega), qpf, Int.le_refl _, (by decide : (0 : Int) < 1)⟩
theorem qdL {n : Nat} (h : n <= 36) : ∀ d ∈ qcB n, okD 2147483648 d := fun d hd => by
 obtain ⟨i, hi, rfl⟩ := List.mem_map.1 hd
 rw [List.mem_range] at hi
 exact ⟨qpe i (by omega), qpf, (by decide : (0 : Int) <= 3), (by decide : (3 : Int) < 2147483648)⟩
theorem qeU {n : Nat} (h : n <= 36) : ∀ d ∈ defsN n, okDf d := fun d hd => by
 obtain ⟨i, hi, rfl⟩ := List.mem_map.1 hd
 rw [List.mem_range] at hi
 exact ⟨qpe i (by omega), rfl, qmh⟩
theorem qdl (n : Nat) : (insN n).length = n := by unfold insN; simp
theorem qce (n : Nat) : (qcB n).length = n := by unfold qcB; simp
theorem qcC (n : Nat) : (defsN n).length = n := by unfold defsN; simp
theorem qdY {k n : Nat} (h : n <= 32) : Sound (manyP k n) := by
 unfold manyP
 split
 . exact ⟨(by rw [qdl]; exact h), Nat.le_of_ble_eq_true rfl, Nat.le_of_ble_eq_true rfl, qhl (by omega), (fun _ h => by cases h), (fun _ h => by cases h), qbG⟩
 . split
   . exact ⟨Nat.le_of_ble_eq_true rfl, (by rw [qce]; exact h), Nat.le_of_ble_eq_true rfl, (fun _ h => by cases h), qdL (by omega), (fun _ h => by cases h), qbG⟩
   . exact ⟨Nat.le_of_ble_eq_true rfl, Nat.le_of_ble_eq_true rfl, (by rw [qcC]; exact h), (fun _ h => by cases h), (fun _ h => by cases h), qeU (by omega), qbG⟩
theorem qhV : ∀ (l : List Nat), qaJ (l.map fun i => (⟨nmV i, idT⟩ : Df)) = 2 * l.length
 | [] => rfl
 | i :: l => by
   rw [List.map_cons, qaJ, qhV l, List.length_cons]
   have : idT.size = 2 := by decide
   show idT.size + 2 * l.length = _
   omega
theorem qpg (k n : Nat) : sizeP (manyP k n) <= 1 + 2 * n := by
 have h0 : zeroT.size = 1 := by decide
 unfold manyP
 split
 . show zeroT.size + 0 <= _
   omega
 . split
   . show zeroT.size + 0 <= _
     omega
   . show zeroT.size + qaJ (defsN n) <= _
     unfold defsN
     rw [qhV, List.length_range]
     omega
theorem qfx {k n : Nat} (h : n <= 32) : qar (manyP k n) = true := by
 refine qaE.2 ⟨qdY h, ?_⟩
 have h1 := qcJ 10 (qdY (k := k) h).body
 have h2 := qiH (qdY (k := k) h)
 have h3 := qpg k n
 omega
theorem qfy {k n : Nat} (h : 32 < n) : qar (manyP k n) = false := by
 cases hr : qar (manyP k n) with
 | false => rfl
 | true =>
   have hs := (qaE.1 hr).1
   have h1 := hs.li
   have h2 := hs.lc
   have h3 := hs.ld
   by_cases k0 : k = 0
   . unfold manyP at h1; rw [if_pos k0, qdl] at h1; omega
   . by_cases k1 : k = 1
     . unfold manyP at h2; rw [if_neg k0, if_pos k1, qce] at h2; omega
     . unfold manyP at h3; rw [if_neg k0, if_neg k1, qcC] at h3; omega
def manyS (k n : Nat) : List UInt8 := ((pieces (manyP k n)).map (· ++ [dot])).flatMap (lineS 32)
theorem qbC (k n : Nat) : pieces (manyP k n) = if k = 0 then (insN n).map inL else if k = 1 then (qcB n).map cellL else (defsN n).map defL := by
 unfold manyP pieces
 split
 . simp
 . split <;> simp
theorem qla {k n : Nat} (h : n <= 36) : ∀ c ∈ pieces (manyP k n), Go.Lx.qao c = true := fun c hc => by
 rw [qbC] at hc
 split at hc
 . obtain ⟨d, hd, rfl⟩ := List.mem_map.1 hc; exact qmd (qhl h d hd)
 . split at hc
   . obtain ⟨d, hd, rfl⟩ := List.mem_map.1 hc; exact qhT (qdL h d hd)
   . obtain ⟨d, hd, rfl⟩ := List.mem_map.1 hc; exact qjG (qeU h d hd)
theorem qnp {k n : Nat} (h : n <= 36) : ∀ c ∈ pieces (manyP k n), ∀ x ∈ c, x.text ≠ [46] := fun c hc => by
 rw [qbC] at hc
 split at hc
 . obtain ⟨d, hd, rfl⟩ := List.mem_map.1 hc; exact qmc (qhl h d hd)
 . split at hc
   . obtain ⟨d, hd, rfl⟩ := List.mem_map.1 hc; exact qhR (qdL h d hd)
   . obtain ⟨d, hd, rfl⟩ := List.mem_map.1 hc; exact qjC (qeU h d hd)
theorem qhm (k n : Nat) : (manyP k n).body = zeroT := by
 unfold manyP
 split
 . rfl
 . split <;> rfl
theorem qjM : toksT zeroT = [dTok 0] := qdp _ _ _
theorem qqQ : lexL [48] = some [dTok 0] := by decide +kernel
theorem qqR {k n : Nat} (h : n <= 36) : lexL (manyS k n ++ [48]) = some (progL (manyP k n)) := by
 unfold manyS
 rw [qeT (.inr rfl) _ _ ?_, qqQ]
 . unfold progL qcy
   rw [qhm, qjM, List.flatMap_def]
   rfl
 . intro l hl
   obtain ⟨c, hc, rfl⟩ := List.mem_map.1 hl
   exact ⟨by simp, qjj (qla h c hc) r_dot⟩
theorem qqS {k n : Nat} (h : n <= 36) : cutL (progL (manyP k n)) = pieces (manyP k n) ++ [[dTok 0]] := by
 have hb : ∀ x ∈ [dTok 0], x.text ≠ [46] := fun x hx => by rw [List.mem_singleton.1 hx]; decide +kernel
 have := qhe [dTok 0] hb (pieces (manyP k n)) (qnp h)
 unfold progL
 rw [qhm, qjM]
 exact this
theorem qjN (k n : Nat) : (pieces (manyP k n)).length = n := by
 rw [qbC]
 split
 . rw [List.length_map, qdl]
 . split
   . rw [List.length_map, qce]
   . rw [List.length_map, qcC]
theorem qnq {n : Nat} (h : 32 < n) : ∃ l, List.range n = List.range 32 ++ 32 :: l := by
 refine ⟨(List.range (n - 33)).map (33 + ·), ?_⟩
 have h1 : n = 33 + (n - 33) := by omega
 have h2 : List.range (33 + (n - 33)) = List.range 33 ++ (List.range (n - 33)).map (33 + ·) := List.range_add
 rw [<- h1] at h2
 rw [h2, show List.range 33 = List.range 32 ++ [32] from by decide]
 simp
theorem qqT {k n : Nat} (h : 32 < n) : qaw P0 (pieces (manyP k n)) = .inr 1 := by
 obtain ⟨l, hl⟩ := qnq h
 rw [qbC]
 split
 . unfold insN
   rw [hl, List.map_append, List.map_append]
   have h1 := qeQ (insN 32) P0 (qhl (by omega)) rfl rfl (by rw [qdl]; exact Nat.le_refl _)
   unfold insN at h1
   rw [qbt _ _ h1]
   rfl
 . split
   . unfold qcB
     rw [hl, List.map_append, List.map_append]
     have h1 := qcV (qcB 32) P0 (qdL (by omega)) rfl (by rw [qce]; exact Nat.le_refl _)
     unfold qcB at h1
     rw [qbt _ _ h1]
     rfl
   . unfold defsN
     rw [hl, List.map_append, List.map_append]
     have h1 := qeR (defsN 32) P0 (qeU (by omega)) (by rw [qcC]; exact Nat.le_refl _)
     unfold defsN at h1
     rw [qbt _ _ h1, List.map_cons, List.map_cons, qaw]
     have e1 : qaL { P0 with defs := P0.defs ++ (List.range 32).map fun i => (⟨nmV i, idT⟩ : Df) } (defL ⟨nmV 32, idT⟩) = .inr 1 := by
       have et := qcS (qeK qmh)
       unfold defL qaL
       dsimp only
       rw [if_neg (by decide), if_neg (by decide), if_pos (show kDef.text = [100, 101, 102] from rfl), if_pos (show fitsF (List.take 2 (nm (nmV 32) :: mTok [61] :: toksT idT)) [.nm, .tx [61]] = true from rfl)]
       show (if (tell (toksT idT)).2 ≠ 0 then _ else if (tell (toksT idT)).1.kind ≠ 3 then _ else _) = _
       rw [et, if_neg (by simp), if_neg (by simp [idT, T.kind])]
       rfl
     rw [e1]
theorem qph {k n : Nat} (h : n <= 36) : (n <= 32 -> progT (progL (manyP k n)) = .inl (manyP k n)) /\ (32 < n -> progT (progL (manyP k n)) = .inr 1) := by
 refine ⟨fun h2 => qjE (qdY h2), fun h2 => ?_⟩
 unfold progT
 rw [qqS h, if_neg (by rw [List.length_append, qjN]; simp; omega), List.dropLast_concat, qqT h2]
theorem qmi {k n : Nat} (h : n <= 36) : (manyS k n ++ [48]).length <= 65536 := by
 unfold manyS
 have h1 := qhh 32 ((pieces (manyP k n)).map (· ++ [dot])) (fun l hl => by obtain ⟨c, hc, rfl⟩ := List.mem_map.1 hl; simp)
 have h2 : len2 ((pieces (manyP k n)).map (· ++ [dot])).flatten <= 56 * (pieces (manyP k n)).length := by
   rw [<- List.flatMap_def]
   refine qcL (m := 54) _ fun c hc => ?_
   rw [qbC] at hc
   split at hc
   . obtain ⟨d, hd, rfl⟩ := List.mem_map.1 hc; have := qro (qhl h d hd); omega
   . split at hc
     . obtain ⟨d, hd, rfl⟩ := List.mem_map.1 hc; exact qme (qdL h d hd)
     . obtain ⟨d, hd, rfl⟩ := List.mem_map.1 hc
       have h3 := qcK (qeU h d hd).1
       have h4 : d.t = idT := by
         unfold defsN at hd
         obtain ⟨i, _, rfl⟩ := List.mem_map.1 hd; rfl
       have h5 : len2 (toksT idT) = 11 := by decide +kernel
       unfold defL
       simp only [qaq]
       rw [h4, h5]
       show (3 : Int) + 1 + ((d.name.data.toList.length : Int) + 1 + (1 + 1 + 11)) <= 54
       omega
 rw [qjN] at h2
 rw [List.length_append, List.length_singleton]
 omega
theorem qfz {k n : Nat} (h : n <= 36) : (n <= 32 -> qaZ (X.strOf (manyS k n ++ [48])) = .inl (manyP k n)) /\ (32 < n -> qaZ (X.strOf (manyS k n ++ [48])) = .inr 1) := by
 have h1 : qaZ (X.strOf (manyS k n ++ [48])) = progT (progL (manyP k n)) := qcz (by rw [X.qbE]; exact qmi h) (by rw [X.qaP]; exact qqR h)
 rw [h1]
 exact qph h
end Go.Proofs.YtjnfhebbphdchaaGreatDoor.Pg
namespace Go.Proofs.YtjnfhebbphdchaaGreatDoor.Pg
open Go.RowKit Go.Shelf Go.Tm Go.Lx Go.Maps Go.Proofs.YtjnfhebbphdchaaGreatDoor.Pa
def d0 : D := ⟨⟨#[]⟩, ⟨#[]⟩, 0⟩
def f0 : Df := ⟨⟨#[]⟩, T0⟩
structure Decls (W : World) (A : Option Addr) (c : Nat) (ds : List D) : Prop where
 cap : ds.length <= c
 max : c <= 9223372036854775807
 szs : ∀ d ∈ ds, d.name.size <= 9223372036854775807 /\ d.label.size <= 9223372036854775807
 at_ : ds ≠ [] -> ∃ b off, A = some ⟨b, off, none⟩ /\ b < W.heap.size /\ ∀ j, j < ds.length -> W.cell? ⟨b, off + j * 3, none⟩ = some (.string (ds.getD j d0).name) /\ W.cell? ⟨b, off + j * 3 + 1, none⟩ = some (.string (ds.getD j d0).label) /\ W.cell? ⟨b, off + j * 3 + 2, none⟩ = some (.int .i64 (ds.getD j d0).n)
theorem Decls.later {w w' : World} {A : Option Addr} {c : Nat} {ds : List D} (h : Decls w A c ds) (hb : Below w.heap.size w w') : Decls w' A c ds :=
 ⟨h.cap, h.max, h.szs, fun hn => by
   obtain ⟨b, off, hA, hlt, hc⟩ := h.at_ hn
   exact ⟨b, off, hA, Nat.lt_of_lt_of_le hlt hb.size, fun j hj => ⟨(hb.cell (p := ⟨b, off + j * 3, none⟩) hlt).trans (hc j hj).1, (hb.cell (p := ⟨b, off + j * 3 + 1, none⟩) hlt).trans (hc j hj).2.1, (hb.cell (p := ⟨b, off + j * 3 + 2, none⟩) hlt).trans (hc j hj).2.2⟩⟩⟩
theorem Decls.nil (W : World) : Decls W none 0 [] := ⟨Nat.le_refl _, by decide, (fun _ h => by cases h), fun h => absurd rfl h⟩
theorem qbu {α : Type} {l : List α} {j : Nat} {d : α} (h : j < l.length) : l.getD j d ∈ l := by
 rw [List.getD_eq_getElem?_getD, List.getElem?_eq_getElem h]
 exact List.getElem_mem h
structure Defs (W : World) (A : Option Addr) (c : Nat) (fs : List Df) : Prop where
 cap : fs.length <= c
 max : c <= 9223372036854775807
 szs : ∀ d ∈ fs, d.name.size <= 9223372036854775807
 at_ : fs ≠ [] -> ∃ b off, A = some ⟨b, off, none⟩ /\ b < W.heap.size /\ ∀ j, j < fs.length -> W.cell? ⟨b, off + j * 5, none⟩ = some (.string (fs.getD j f0).name) /\ qan W (· < W.heap.size) b (off + j * 5 + 1) (fs.getD j f0).t
theorem Defs.later {w w' : World} {A : Option Addr} {c : Nat} {fs : List Df} (h : Defs w A c fs) (hb : Below w.heap.size w w') : Defs w' A c fs :=
 ⟨h.cap, h.max, h.szs, fun hn => by
   obtain ⟨b, off, hA, hlt, hc⟩ := h.at_ hn
   exact ⟨b, off, hA, Nat.lt_of_lt_of_le hlt hb.size, fun j hj => ⟨(hb.cell (p := ⟨b, off + j * 5, none⟩) hlt).trans (hc j hj).1, qan.kept (fun k hk => Nat.lt_of_lt_of_le hk hb.size) (fun k hk => hb.block k hk) (hc j hj).2⟩⟩⟩
theorem Defs.nil (W : World) : Defs W none 0 [] := ⟨Nat.le_refl _, by decide, (fun _ h => by cases h), fun h => absurd rfl h⟩
structure PV where
 p : P
 I : Option Addr
 i : Nat
 C : Option Addr
 c : Nat
 F : Option Addr
 f : Nat
 B : Option Addr
 b : Nat
def PV.cells (x : PV) : Array Value := #[.slice x.I x.p.ins.length x.i, .slice x.C x.p.cells.length x.c, .slice x.F x.p.defs.length x.f, .int .i64 x.p.body.kind, .string x.p.body.name, .int .i64 x.p.body.num, .slice x.B x.p.body.kids.length x.b]
structure ProgAt (W : World) (x : PV) : Prop where
 ins : Decls W x.I x.i x.p.ins
 cells : Decls W x.C x.c x.p.cells
 defs : Defs W x.F x.f x.p.defs
 body : TmV W (· < W.heap.size) x.p.body x.B x.b
theorem ProgAt.later {w w' : World} {x : PV} (h : ProgAt w x) (hb : Below w.heap.size w w') : ProgAt w' x := ⟨h.ins.later hb, h.cells.later hb, h.defs.later hb, h.body.later hb⟩
def pv0 : PV := ⟨P0, none, 0, none, 0, none, 0, none, 0⟩
theorem qti (W : World) : ProgAt W pv0 := ⟨Decls.nil W, Decls.nil W, Defs.nil W, TmV.leaf W _ (by decide)⟩
end Go.Proofs.YtjnfhebbphdchaaGreatDoor.Pg
