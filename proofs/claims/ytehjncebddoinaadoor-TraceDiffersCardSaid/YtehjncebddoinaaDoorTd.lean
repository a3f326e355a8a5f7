/- The law on differences and digests. -/
import Derived.Test.YtehjncebddoinaaDoorTa
import Derived.Test.YtehjncebddoinaaDoorC2
namespace Go.Proofs.YtehjncebddoinaaDoor
open Go.RowKit
set_option maxHeartbeats 1600000 in
set_option maxRecDepth 100000 in
theorem tdiffers_any (va : Value) (a : List Ev) (vb : Value) (b : List Ev) (w : World) (ha : TR w va a) (hb0 : TR w vb b) (hp : P10 w) : Calls Tryd.prog 4 #[va, vb] w (AwPost w) := by
  have hb := Below.refl w.heap.size w
  have HA := Lib.hid (fun W (h : Below w.heap.size w W) => ha.below h)
  have HB := Lib.hid (fun W (h : Below w.heap.size w W) => hb0.below h)
  have HP := Lib.hid (fun W (h : Below w.heap.size w W) => hp.below h)
  have AW := Lib.hid awake_any
  have FA := Lib.hid (far_tr ha)
  have FB := Lib.hid (far_tr hb0)
  clear hp
  by_cases fa : farB a.length = true
  · rw [fa] at FA
    clear ha hb0 fa
    go_enter Tryd.func4, Tryd.ntmps4
    go_wp2_with (go_at_call 8; refine FA.out.mono ?_; rintro e w' ⟨rfl, rfl⟩)
    refine (AW.out _ (HP.out _ hb)).mono ?_
    rintro e w2 ⟨rfl, hb2⟩
    go_wp2
    go_ret
    exact ⟨rfl, hb2⟩
  · have fa : farB a.length = false := by simpa using fa
    have la := farB_false fa
    rw [fa] at FA
    by_cases fb : farB b.length = true
    · rw [fb] at FB
      clear ha hb0 fa fb la
      go_enter Tryd.func4, Tryd.ntmps4
      go_wp2_with (go_at_call 8; (first | (with_reducible refine FA.out.mono ?_) | (with_reducible refine FB.out.mono ?_)); rintro e w' ⟨rfl, rfl⟩)
      refine (AW.out _ (HP.out _ hb)).mono ?_
      rintro e w2 ⟨rfl, hb2⟩
      go_wp2
      go_ret
      exact ⟨rfl, hb2⟩
    · have fb : farB b.length = false := by simpa using fb
      have lb := farB_false fb
      rw [fb] at FB
      have la2 : a.length ≤ 100000000 := by omega
      have lb2 : b.length ≤ 100000000 := by omega
      have D1 := Lib.hid (fun W (h : Below w.heap.size w W) => differ_any va vb a b W (ha.below h) (hb0.below h) la2 lb2)
      have D2 := Lib.hid (fun W (h : Below w.heap.size w W) => rdiffer_any va vb a b W (ha.below h) (hb0.below h) la2 lb2)
      have G1 := Lib.hid (fun W (h : Below w.heap.size w W) => digest_any va a W (ha.below h) la2)
      have G2 := Lib.hid (fun W (h : Below w.heap.size w W) => rdigest_any va a W (ha.below h) la2)
      have G3 := Lib.hid (fun W (h : Below w.heap.size w W) => digest_any vb b W (hb0.below h) lb2)
      have G4 := Lib.hid (fun W (h : Below w.heap.size w W) => rdigest_any vb b W (hb0.below h) lb2)
      have e1 : (diffP a b == diffP a b) = true := by simp
      have e2 : (digP a == digP a) = true := by simp
      have e3 : (digP b == digP b) = true := by simp
      clear ha hb0 fa fb la lb la2 lb2
      go_enter Tryd.func4, Tryd.ntmps4
      go_wp2_with (first
        | (go_at_call 8; (first | (with_reducible refine FA.out.mono ?_) | (with_reducible refine FB.out.mono ?_)); rintro e w' ⟨rfl, rfl⟩)
        | (go_at_call 17; refine (D1.out _ hb).mono ?_; rintro e w1 ⟨rfl, hb2⟩; replace hb := hb.trans (hb2.mono hb.size); clear hb2)
        | (go_at_call 18; refine (D2.out _ hb).mono ?_; rintro e w1 ⟨rfl, hb2⟩; replace hb := hb.trans (hb2.mono hb.size); clear hb2)
        | (go_at_call 19; (first | (with_reducible refine (G1.out _ hb).mono ?_) | (with_reducible refine (G3.out _ hb).mono ?_)); rintro e w1 ⟨rfl, hb2⟩; replace hb := hb.trans (hb2.mono hb.size); clear hb2)
        | (go_at_call 20; (first | (with_reducible refine (G2.out _ hb).mono ?_) | (with_reducible refine (G4.out _ hb).mono ?_)); rintro e w1 ⟨rfl, hb2⟩; replace hb := hb.trans (hb2.mono hb.size); clear hb2)
        | (go_at_call 9; refine (AW.out _ (HP.out _ hb)).mono ?_; rintro e w1 ⟨rfl, hb2⟩; replace hb := hb.trans (hb2.mono hb.size); clear hb2))
      go_ret
      exact ⟨rfl, hb⟩
end Go.Proofs.YtehjncebddoinaaDoor
