/-
  LatLaws's walk: true of whatever lattice and points. Conditions: the library's variables lie as laid; the lattice can be read.
-/
import Derived.Test.YtjeelebppfhmlaaDoorLtAt
import Derived.Deep.RegionHeld3
import Derived.Deep.DrawnRows
namespace Go.Proofs.YtjeelebppfhmlaaDoor
open Go.RowKit Go.Shelf Go.Lt
attribute [local go_sem ↓] Go.wp_at_zero Go.wp_at_succ

theorem Told.joinV {ns : List ByteArray} {us : List Nat} {J M : Nat → Nat → Nat} {z t a b j : Nat} (h : Told ns us J M z t) (ha : a < us.length) (hb : b < us.length) (hj : IsJoin us a b j) : joinI ns us (a : Int) (b : Int) = (j : Int) := by
  rw [h.join a b ha hb, (h.isJ a b ha hb).uniq h.lat.ord hj]
theorem Told.meetV {ns : List ByteArray} {us : List Nat} {J M : Nat → Nat → Nat} {z t a b j : Nat} (h : Told ns us J M z t) (ha : a < us.length) (hb : b < us.length) (hj : IsJoin (turnedL us) a b j) : meetI ns us (a : Int) (b : Int) = (j : Int) := by
  rw [h.meet a b ha hb, (h.isM a b ha hb).uniq (h.lat.turned h.pos).ord hj]
theorem assoc_of {us : List Nat} {x y v a b s : Nat} (hO : IsOrd us) (h1 : IsJoin us x y a) (h2 : IsJoin us a v s) (h3 : IsJoin us y v b) : IsJoin us x b s :=
  ⟨hO.trans _ _ _ h1.left h2.left, h3.least s (hO.trans _ _ _ h1.right h2.left) h2.right, fun c k1 k2 => h2.least c (h1.least c k1 (hO.trans _ _ _ h3.left k2)) (hO.trans _ _ _ h3.right k2)⟩
theorem absorb_of {us : List Nat} {x m : Nat} (hO : IsOrd us) (hx : x < us.length) (h : le us m x = true) : IsJoin us x m x := ⟨hO.refl x hx, h, fun _ k _ => k⟩
theorem far_join {ns : List ByteArray} {us : List Nat} {a : Int} : joinI ns us a (ns.length : Int) = -1 := by
  unfold joinI pointB; simp
theorem low_meet {ns : List ByteArray} {us : List Nat} {b : Int} : meetI ns us (-1) b = -1 := by
  unfold meetI pointB; simp
structure LawsAt (ns : List ByteArray) (us : List Nat) (x y v jxy jyz s mxy myz r z t : Nat) : Prop where
  k1 : joinI ns us (x : Int) (y : Int) = (jxy : Int)
  k2 : joinI ns us (jxy : Int) (v : Int) = (s : Int)
  k3 : joinI ns us (y : Int) (v : Int) = (jyz : Int)
  k4 : joinI ns us (x : Int) (jyz : Int) = (s : Int)
  k5 : joinI ns us (y : Int) (x : Int) = (jxy : Int)
  k6 : joinI ns us (x : Int) (mxy : Int) = (x : Int)
  k7 : joinI ns us (x : Int) (z : Int) = (x : Int)
  m1 : meetI ns us (x : Int) (y : Int) = (mxy : Int)
  m2 : meetI ns us (mxy : Int) (v : Int) = (r : Int)
  m3 : meetI ns us (y : Int) (v : Int) = (myz : Int)
  m4 : meetI ns us (x : Int) (myz : Int) = (r : Int)
  m5 : meetI ns us (y : Int) (x : Int) = (mxy : Int)
  m6 : meetI ns us (x : Int) (jxy : Int) = (x : Int)
  m7 : meetI ns us (x : Int) (t : Int) = (x : Int)
theorem laws_of {ns : List ByteArray} {us : List Nat} {J M : Nat → Nat → Nat} {z t x y v : Nat} (hT : Told ns us J M z t) (hx : x < us.length) (hy : y < us.length) (hv : v < us.length) : ∃ jxy jyz s mxy myz r, LawsAt ns us x y v jxy jyz s mxy myz r z t := by
  have hO := hT.lat.ord
  have hOt := (hT.lat.turned hT.pos).ord
  have j1 := hT.isJ x y hx hy
  have j3 := hT.isJ y v hy hv
  have m1 := hT.isM x y hx hy
  have m3 := hT.isM y v hy hv
  have a1 := (hO.inn _ _ j1.left).2
  have a3 := (hO.inn _ _ j3.left).2
  have b1 := (hO.inn _ _ (le_rt hT m1.left)).1
  have b3 := (hO.inn _ _ (le_rt hT m3.left)).1
  have j2 := hT.isJ _ v a1 hv
  have m2 := hT.isM _ v b1 hv
  have hxt : x < (turnedL us).length := by rw [turnedL_length]; exact hx
  exact ⟨J x y, J y v, J (J x y) v, M x y, M y v, M (M x y) v,
    { k1 := hT.joinV hx hy j1, k2 := hT.joinV a1 hv j2, k3 := hT.joinV hy hv j3, k4 := hT.joinV hx a3 (assoc_of hO j1 j2 j3), k5 := hT.joinV hy hx j1.comm
      k6 := hT.joinV hx b1 (absorb_of hO hx (le_rt hT m1.left)), k7 := hT.joinV hx hT.z_lt (absorb_of hO hx (hT.isZ x hx))
      m1 := hT.meetV hx hy m1, m2 := hT.meetV b1 hv m2, m3 := hT.meetV hy hv m3, m4 := hT.meetV hx b3 (assoc_of hOt m1 m2 m3), m5 := hT.meetV hy hx m1.comm
      m6 := hT.meetV hx a1 (absorb_of hOt hxt (le_tr hT j1.left)), m7 := hT.meetV hx hT.t_lt (absorb_of hOt hxt (le_tr hT (hT.isT x hx))) }⟩

set_option maxRecDepth 100000 in
set_option maxHeartbeats 4000000 in
theorem latLaws_any (A B : Option Addr) (ns : List ByteArray) (us : List Nat) (c d : Nat) (a1 a2 a3 : Int) (w : World) (hE : Env w) (hL : LatAt w A B c ns us) (h1 : 0 ≤ a1 ∧ a1 < 256) (h2 : 0 ≤ a2 ∧ a2 < 256) (h3 : 0 ≤ a3 ∧ a3 < 256) :
    Calls Tryd.prog 6 #[.agg #[.slice A ns.length c, .slice B us.length d], .int .u8 a1, .int .u8 a2, .int .u8 a3] w fun e w' => e = .returned (.bool true) ∧ Below w.heap.size w w' := by
  have hX := Lib.hid (At.new (d := d) hE hL)
  have hnl := hL.nlen
  clear hE hL
  go_enter Tryd.func6, Tryd.ntmps6
  go_wp2_with fail
  refine (at_examples hX.out).mono ?_
  rintro e w1 ⟨rfl, hY⟩
  clear hX
  have q1 := hY.out.box.1
  have q2 := hY.out.box.2.1
  go_wp2_with fail
  clear q1 q2
  cases hR : rightB ns us with
  | false =>
    refine (at_right hY.out hR).mono ?_
    rintro e w2 ⟨rfl, hX⟩
    clear hY
    have q1 := hX.out.box.1
    have q2 := hX.out.box.2.1
    have hR := Lib.hid hR
    go_wp2_with fail
    clear q1 q2
    go_ret
    exact ⟨rfl, hX.out.below⟩
  | true =>
    refine (at_right hY.out hR).mono ?_
    rintro e w2 ⟨rfl, hX⟩
    clear hY
    have q1 := hX.out.box.1
    have q2 := hX.out.box.2.1
    obtain ⟨J, M, z, t, hT⟩ := told_of hX.out.lat.w64 hR
    obtain ⟨x, ex, hx⟩ := hT.modN a1
    obtain ⟨y, ey, hy⟩ := hT.modN a2
    obtain ⟨v, ev, hv⟩ := hT.modN a3
    have hT := Lib.hid hT
    have hR := Lib.hid hR
    have hx := Lib.hid hx
    have hy := Lib.hid hy
    have hv := Lib.hid hv
    have ex := Lib.hid ex
    have ey := Lib.hid ey
    have ev := Lib.hid ev
    have hpos : 1 ≤ ns.length := by have := hT.out.pos; have := hT.out.eqn; omega
    go_wp2_with fail
    rw [ex.out, ey.out, ev.out]
    clear q1 q2 ex ey ev h1 h2 h3
    obtain ⟨jxy, jyz, s, mxy, myz, r, hK⟩ := laws_of hT.out hx.out hy.out hv.out
    have hK := Lib.hid hK
    clear hx hy hv
    have hO := hX
    clear hX
    have hX := Lib.hid hO.out.drew
    clear hO
    have q1 := hX.out.box.1
    have q2 := hX.out.box.2.1
    go_region_held3 (fun w' => w'.cell? ⟨w.heap.size, 0, none⟩ = some (.slice A ns.length c) ∧ w'.cell? ⟨w.heap.size, 1, none⟩ = some (.slice B us.length d)) (exact ⟨q1, q2⟩) (first | (go_at_call 22; have hO := hX; clear hX q1 q2; refine (at_join hO.out _ _ rfl).mono ?_; clear hO; rintro e w9 ⟨he, hX⟩; (first | rw [hK.out.k1] at he | rw [hK.out.k2] at he | rw [hK.out.k3] at he | rw [hK.out.k4] at he | rw [hK.out.k5] at he | rw [hK.out.k6] at he | rw [hK.out.k7] at he | rw [far_join] at he); subst he; have q1 := hX.out.box.1; have q2 := hX.out.box.2.1) | (go_at_call 24; have hO := hX; clear hX q1 q2; refine (at_meet hO.out _ _ rfl).mono ?_; clear hO; rintro e w9 ⟨he, hX⟩; (first | rw [hK.out.m1] at he | rw [hK.out.m2] at he | rw [hK.out.m3] at he | rw [hK.out.m4] at he | rw [hK.out.m5] at he | rw [hK.out.m6] at he | rw [hK.out.m7] at he | rw [low_meet] at he); subst he; have q1 := hX.out.box.1; have q2 := hX.out.box.2.1))
    go_wp2_with fail
    have hO := hX
    clear hX q1 q2
    have hX := Lib.hid hO.out.drew
    clear hO
    have q1 := hX.out.box.1
    have q2 := hX.out.box.2.1
    go_region_held3 (fun w' => w'.cell? ⟨w.heap.size, 0, none⟩ = some (.slice A ns.length c) ∧ w'.cell? ⟨w.heap.size, 1, none⟩ = some (.slice B us.length d)) (exact ⟨q1, q2⟩) (first | (go_at_call 22; have hO := hX; clear hX q1 q2; refine (at_join hO.out _ _ rfl).mono ?_; clear hO; rintro e w9 ⟨he, hX⟩; (first | rw [hK.out.k1] at he | rw [hK.out.k2] at he | rw [hK.out.k3] at he | rw [hK.out.k4] at he | rw [hK.out.k5] at he | rw [hK.out.k6] at he | rw [hK.out.k7] at he | rw [far_join] at he); subst he; have q1 := hX.out.box.1; have q2 := hX.out.box.2.1) | (go_at_call 24; have hO := hX; clear hX q1 q2; refine (at_meet hO.out _ _ rfl).mono ?_; clear hO; rintro e w9 ⟨he, hX⟩; (first | rw [hK.out.m1] at he | rw [hK.out.m2] at he | rw [hK.out.m3] at he | rw [hK.out.m4] at he | rw [hK.out.m5] at he | rw [hK.out.m6] at he | rw [hK.out.m7] at he | rw [low_meet] at he); subst he; have q1 := hX.out.box.1; have q2 := hX.out.box.2.1))
    go_wp2_with fail
    have hO := hX
    clear hX q1 q2
    have hX := Lib.hid hO.out.drew
    clear hO
    have q1 := hX.out.box.1
    have q2 := hX.out.box.2.1
    go_region_held3 (fun w' => w'.cell? ⟨w.heap.size, 0, none⟩ = some (.slice A ns.length c) ∧ w'.cell? ⟨w.heap.size, 1, none⟩ = some (.slice B us.length d)) (exact ⟨q1, q2⟩) (first | (go_at_call 22; have hO := hX; clear hX q1 q2; refine (at_join hO.out _ _ rfl).mono ?_; clear hO; rintro e w9 ⟨he, hX⟩; (first | rw [hK.out.k1] at he | rw [hK.out.k2] at he | rw [hK.out.k3] at he | rw [hK.out.k4] at he | rw [hK.out.k5] at he | rw [hK.out.k6] at he | rw [hK.out.k7] at he | rw [far_join] at he); subst he; have q1 := hX.out.box.1; have q2 := hX.out.box.2.1) | (go_at_call 24; have hO := hX; clear hX q1 q2; refine (at_meet hO.out _ _ rfl).mono ?_; clear hO; rintro e w9 ⟨he, hX⟩; (first | rw [hK.out.m1] at he | rw [hK.out.m2] at he | rw [hK.out.m3] at he | rw [hK.out.m4] at he | rw [hK.out.m5] at he | rw [hK.out.m6] at he | rw [hK.out.m7] at he | rw [low_meet] at he); subst he; have q1 := hX.out.box.1; have q2 := hX.out.box.2.1) | (go_at_call 26; have hO := hX; clear hX q1 q2; refine (at_bottom hO.out hT.out.bottom).mono ?_; clear hO; rintro e w9 ⟨rfl, hX⟩; have q1 := hX.out.box.1; have q2 := hX.out.box.2.1) | (go_at_call 28; have hO := hX; clear hX q1 q2; refine (at_top hO.out hT.out.top).mono ?_; clear hO; rintro e w9 ⟨rfl, hX⟩; have q1 := hX.out.box.1; have q2 := hX.out.box.2.1))
    go_wp2
    go_ret
    exact ⟨rfl, hX.out.below⟩
end Go.Proofs.YtjeelebppfhmlaaDoor
