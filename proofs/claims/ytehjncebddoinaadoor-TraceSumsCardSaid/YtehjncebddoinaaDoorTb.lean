/- The law on parts. -/
import Derived.Test.YtehjncebddoinaaDoorTa
import Derived.Test.YtehjncebddoinaaDoorL2
namespace Go.Proofs.YtehjncebddoinaaDoor
open Go.RowKit
theorem IRow.form {W : World} {v : Value} {l : List Int} (h : IRow W v l) : ∃ p c, v = .slice p l.length c := by
  obtain ⟨p, c, e, _⟩ := h; exact ⟨p, c, e⟩
theorem partsR_len (rs : List Rg) (l : List Ev) : (partsR rs l).length ≤ rs.length + 1 := by
  unfold partsR; split
  · rw [partsL_len]; exact Nat.le_refl _
  · simp
set_option maxHeartbeats 1600000 in
set_option maxRecDepth 100000 in
theorem tparts_any (va : Value) (a : List Ev) (vr : Value) (rs : List Rg) (w : World) (ha : TR w va a) (hr : RG w vr rs) (hp : P10 w) : Calls Tryd.prog 5 #[va, vr] w (AwPost w) := by
  have hb := Below.refl w.heap.size w
  have HP := Lib.hid (fun W (h : Below w.heap.size w W) => hp.below h)
  have AW := Lib.hid awake_any
  have FA := Lib.hid (far_tr ha)
  clear hp
  by_cases fa : farB a.length = true
  · rw [fa] at FA
    clear ha hr fa
    go_enter Tryd.func5, Tryd.ntmps5
    go_wp2_with (go_at_call 8; refine FA.out.mono ?_; rintro e w' ⟨rfl, rfl⟩)
    refine (AW.out _ (HP.out _ hb)).mono ?_
    rintro e w2 ⟨rfl, hb2⟩
    go_wp2
    go_ret
    exact ⟨rfl, hb2⟩
  · have fa : farB a.length = false := by simpa using fa
    have la := farB_false fa
    rw [fa] at FA
    have la2 : a.length ≤ 100000000 := by omega
    have D1 := Lib.hid (fun W (h : Below w.heap.size w W) (h2 : rs.length ≤ 1000000) => parts_any va vr a rs W (ha.below h) (hr.below h) la2 h2)
    have D2 := Lib.hid (fun W (h : Below w.heap.size w W) (h2 : rs.length ≤ 1000000) => rparts_any va vr a rs W (ha.below h) (hr.below h) la2 h2)
    have HPL := Lib.hid (partsR_len rs a)
    clear ha fa la la2
    obtain ⟨_, pr, cr, rfl, _⟩ := hr
    obtain ⟨n, hn⟩ : ∃ n, n = rs.length := ⟨_, rfl⟩
    rw [← hn] at D1 D2 HPL ⊢
    by_cases h70 : 70 < n
    · have t1 : decide ((70 : Int) < (n : Int)) = true := decide_eq_true (by omega)
      clear hn h70
      go_enter Tryd.func5, Tryd.ntmps5
      go_wp2_with (go_at_call 8; refine FA.out.mono ?_; rintro e w' ⟨rfl, rfl⟩)
      refine (AW.out _ (HP.out _ hb)).mono ?_
      rintro e w2 ⟨rfl, hb2⟩
      go_wp2
      go_ret
      exact ⟨rfl, hb2⟩
    · have t1 : decide ((70 : Int) < (n : Int)) = false := decide_eq_false (by omega)
      have hn0 : n ≤ 1000000 := by omega
      replace HPL := Lib.hid (show (partsR rs a).length ≤ 100000000 by have := HPL.out; omega)
      have e1 : (partE rs == partE rs) = true := by simp
      clear hn h70
      unfold PaPost at D1 D2
      generalize partE rs = E at *
      generalize partsR rs a = L at *
      go_enter Tryd.func5, Tryd.ntmps5
      go_wp2_with (first
        | (go_at_call 8; refine FA.out.mono ?_; rintro e w' ⟨rfl, rfl⟩)
        | (go_at_call 21; refine (D1.out _ hb hn0).mono ?_; rintro e w1 ⟨v1, rfl, hi1, hb2⟩; replace hb := hb.trans (hb2.mono hb.size); clear hb2)
        | (go_at_call 22; refine (D2.out _ hb hn0).mono ?_; rintro e w2 ⟨v2, rfl, hi2, hb2⟩; replace hb := hb.trans (hb2.mono hb.size); have IN := Lib.hid (ints_any _ _ L L _ (hi1.below hb2) hi2 HPL.out); rw [show decide (L = L) = true from decide_eq_true rfl] at IN; (obtain ⟨q1, k1, rfl⟩ := hi1.form); (obtain ⟨q2, k2, rfl⟩ := hi2.form); clear hb2 hi1 hi2)
        | (go_at_call 23; refine IN.out.mono ?_; rintro e w5 ⟨rfl, d, rfl⟩; replace hb := below_drewN2 hb d)
        | (go_at_call 9; refine (AW.out _ (HP.out _ hb)).mono ?_; rintro e w3 ⟨rfl, hb2⟩; replace hb := hb.trans (hb2.mono hb.size); clear hb2))
      go_ret
      exact ⟨rfl, hb⟩
end Go.Proofs.YtehjncebddoinaaDoor
