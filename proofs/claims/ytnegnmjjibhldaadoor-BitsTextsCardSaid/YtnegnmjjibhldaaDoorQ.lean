/- Layer 2: the laws on shifts, pairs and sets, walked. -/
import Derived.Test.YtnegnmjjibhldaaDoorP
import Derived.Test.YtnegnmjjibhldaaDoorG
namespace Go.Proofs.YtnegnmjjibhldaaDoor
open Go.RowKit
theorem far_any (v : Value) (xs : List Nat) (w : World) (hv : URow w v xs) : Calls Tryd.prog 5 #[v] w fun e w' => e = .returned (.bool (decide (20 < xs.length))) ∧ w = w' := by
  obtain ⟨p, c, rfl, _, _⟩ := hv
  by_cases h : 20 < xs.length
  · have hb : decide ((20 : Int) < (xs.length : Int)) = true := decide_eq_true (by omega)
    have H := Lib.hid (show decide (20 < xs.length) = true from decide_eq_true h)
    clear h
    go_enter Tryd.func5, Tryd.ntmps5
    go_wp2
    go_ret
    exact ⟨by rw [H.out]; rfl, rfl⟩
  · have hb : decide ((20 : Int) < (xs.length : Int)) = false := decide_eq_false (by omega)
    have H := Lib.hid (show decide (20 < xs.length) = false from decide_eq_false h)
    clear h
    go_enter Tryd.func5, Tryd.ntmps5
    go_wp2
    go_ret
    exact ⟨by rw [H.out]; rfl, rfl⟩
theorem same_yes (a b : Value) (xs : List Nat) (w : World) (ha : URow w a xs) (hb : URow w b xs) (hl : xs.length ≤ 1000000) :
    Calls Tryd.prog 11 #[a, b] w fun e w' => e = .returned (.bool true) ∧ Below w.heap.size w w' :=
  (same_any a b xs xs w ha hb hl).mono fun _ _ ⟨he, d, hd⟩ => ⟨he.trans (by simp), by rw [hd]; exact below_drewN w d⟩
theorem ints_yes (a b : Value) (xs : List Int) (w : World) (ha : IRow w a xs) (hb : IRow w b xs) (hl : xs.length ≤ 1000000) :
    Calls Tryd.prog 18 #[a, b] w fun e w' => e = .returned (.bool true) ∧ Below w.heap.size w w' :=
  (ints_any a b xs xs w ha hb hl).mono fun _ _ ⟨he, d, hd⟩ => ⟨he.trans (by simp), by rw [hd]; exact below_drewN w d⟩
end Go.Proofs.YtnegnmjjibhldaaDoor
