/- Layer 2: the laws on shifts, pairs and sets, walked. -/
import Derived.Test.YtnegnmjjibhldaaP
namespace Go.Proofs.Ytnegnmjjibhldaa
open Go.RowKit
theorem far_any (v : Value) (xs : List Nat) (w : World) (hv : URow w v xs) : Calls Try.prog 10 #[v] w fun e w' => e = .returned (.bool (decide (20 < xs.length))) ∧ w = w' := by
  obtain ⟨p, c, rfl, _, _⟩ := hv
  by_cases h : 20 < xs.length
  · have hb : decide ((20 : Int) < (xs.length : Int)) = true := decide_eq_true (by omega)
    have H := Lib.hid (show decide (20 < xs.length) = true from decide_eq_true h)
    clear h
    go_enter Try.func10, Try.ntmps10
    go_wp2
    go_ret
    exact ⟨by rw [H.out]; rfl, rfl⟩
  · have hb : decide ((20 : Int) < (xs.length : Int)) = false := decide_eq_false (by omega)
    have H := Lib.hid (show decide (20 < xs.length) = false from decide_eq_false h)
    clear h
    go_enter Try.func10, Try.ntmps10
    go_wp2
    go_ret
    exact ⟨by rw [H.out]; rfl, rfl⟩
theorem same_yes (a b : Value) (xs : List Nat) (w : World) (ha : URow w a xs) (hb : URow w b xs) (hl : xs.length ≤ 1000000) :
    Calls Try.prog 18 #[a, b] w fun e w' => e = .returned (.bool true) ∧ Below w.heap.size w w' :=
  (same_any a b xs xs w ha hb hl).mono fun _ _ ⟨he, d, hd⟩ => ⟨he.trans (by simp), by rw [hd]; exact below_drewN w d⟩
theorem ints_yes (a b : Value) (xs : List Int) (w : World) (ha : IRow w a xs) (hb : IRow w b xs) (hl : xs.length ≤ 1000000) :
    Calls Try.prog 23 #[a, b] w fun e w' => e = .returned (.bool true) ∧ Below w.heap.size w w' :=
  (ints_any a b xs xs w ha hb hl).mono fun _ _ ⟨he, d, hd⟩ => ⟨he.trans (by simp), by rw [hd]; exact below_drewN w d⟩
theorem shiftR_len (xs : List Nat) (b : Bool) (h : xs.length ≤ 1000) : (shiftR xs b).length ≤ 1000000 := by
  unfold shiftR; split
  · rw [mkRow_len]; omega
  · simp
theorem backR_len (xs : List Nat) (b : Bool) (h : xs.length ≤ 1000) : (backR xs b).length ≤ 1000000 := by
  unfold backR; split
  · rw [mkRow_len]; omega
  · simp
set_option maxRecDepth 100000 in
theorem shifts_any (v : Value) (xs : List Nat) (bt : Bool) (w : World) (hv : URow w v xs) (hw : Wf xs) : Calls Try.prog 4 #[v, .bool bt] w fun e w' => e = .returned (.bool true) ∧ Below w.heap.size w w' := by
  have FA := Lib.hid (far_any v xs w hv)
  have AW := Lib.hid (fun w' => awake_any w')
  by_cases h20 : 20 < xs.length
  · rw [decide_eq_true h20] at FA
    clear h20
    go_enter Try.func4, Try.ntmps4
    go_wp2_with (first
      | (go_at_call 10; refine FA.out.mono ?_; rintro e w1 ⟨rfl, rfl⟩)
      | (go_at_call 11; refine (AW.out _).mono ?_; rintro e w2 ⟨rfl, hb⟩))
    go_ret
    exact ⟨rfl, hb⟩
  · rw [decide_eq_false h20] at FA
    have S1 := Lib.hid (fun w' (h : Below w.heap.size w w') => shift_any v xs bt w' (hv.below h) hw)
    have S2 := Lib.hid (fun w' (h : Below w.heap.size w w') => rshift_any v xs bt w' (hv.below h) hw)
    have B1 := Lib.hid (fun w' (h : Below w.heap.size w w') => back_any v xs bt w' (hv.below h) hw)
    have B2 := Lib.hid (fun w' (h : Below w.heap.size w w') => rback_any v xs bt w' (hv.below h) hw)
    have LS := Lib.hid (shiftR_len xs bt (by omega))
    have LB := Lib.hid (backR_len xs bt (by omega))
    generalize shiftR xs bt = ys at *
    generalize backR xs bt = zs at *
    generalize shiftO xs = o at *
    generalize backO xs = q at *
    generalize chk xs.length = E at *
    clear h20 hv hw
    have hb := Below.refl w.heap.size w
    go_enter Try.func4, Try.ntmps4
    go_wp2_with (first
      | (go_at_call 10; refine FA.out.mono ?_; rintro e w1 ⟨rfl, rfl⟩)
      | (go_at_call 26; refine (S1.out _ hb).mono ?_; rintro e w1 ⟨a, rfl, ra, hb2⟩; have hb := hb.trans (hb2.mono hb.size))
      | (go_at_call 27; refine (S2.out _ hb).mono ?_; rintro e w2 ⟨b, rfl, rb, hb2⟩; have hb := hb.trans (hb2.mono hb.size); have ra := ra.below hb2)
      | (go_at_call 28; refine (B1.out _ hb).mono ?_; rintro e w3 ⟨c, rfl, rc, hb2⟩; have hb := hb.trans (hb2.mono hb.size); have ra := ra.below hb2; have rb := rb.below hb2)
      | (go_at_call 29; refine (B2.out _ hb).mono ?_; rintro e w4 ⟨d, rfl, rd, hb2⟩; have hb := hb.trans (hb2.mono hb.size); have ra := ra.below hb2; have rb := rb.below hb2; have rc := rc.below hb2)
      | (go_at_call 18; first
          | ((with_reducible refine (same_yes _ _ _ _ ra rb LS.out).mono ?_); rintro e w5 ⟨rfl, hb2⟩; have hb := hb.trans (hb2.mono hb.size); have rc := rc.below hb2; have rd := rd.below hb2)
          | ((with_reducible refine (same_yes _ _ _ _ rc rd LB.out).mono ?_); rintro e w5 ⟨rfl, hb2⟩; have hb := hb.trans (hb2.mono hb.size)))
      | (go_at_call 11; refine (AW.out _).mono ?_; rintro e w6 ⟨rfl, hb2⟩; have hb := hb.trans (hb2.mono hb.size)))
    go_ret
    exact ⟨rfl, hb⟩
end Go.Proofs.Ytnegnmjjibhldaa
