/- Layer 2: contracts of Check, has, place, bit, lowBit. -/
import Derived.Test.YtnegnmjjibhldaaRows
import Derived.Test.YtnegnmjjibhldaaPlain
import Derived.WalkKit
import Derived.WalkSpells
import Derived.WalkLawsBesides
import Derived.IntWalk
import Derived.BigQuiet
import Derived.Deep.QuietTactic
import Derived.Lib.Hide
import Derived.Below
import Derived.Outline
namespace Go.Proofs.Ytnegnmjjibhldaa
open Go.RowKit
theorem ret_bool {a b : Bool} (h : a = b) : Ending.returned (.bool a) = .returned (.bool b) := by rw [h]
theorem ret_int {k : IntKind} {a b : Int} (h : a = b) : Ending.returned (.int k a) = .returned (.int k b) := by rw [h]
/-- A slice of words in memory. -/
def URow (W : World) (v : Value) (xs : List Nat) : Prop :=
  ∃ p c, v = .slice p xs.length c ∧ xs.length ≤ c ∧ ∀ i x, xs[i]? = some x → ∃ b o, p = some ⟨b, o, none⟩ ∧ W.cell? ⟨b, o + i, none⟩ = some (.int .u64 (x : Nat))
theorem URow.below {w w' : World} {v : Value} {xs : List Nat} (h : URow w v xs) (hb : Below w.heap.size w w') : URow w' v xs := by
  obtain ⟨p, c, rfl, hc, hx⟩ := h
  refine ⟨p, c, rfl, hc, fun i x hi => ?_⟩
  obtain ⟨b, o, rfl, hcell⟩ := hx i x hi
  have hlt : b < w.heap.size := by
    rcases Nat.lt_or_ge b w.heap.size with h | h
    · exact h
    · simp [World.cell?, Array.getElem?_eq_none h] at hcell
  exact ⟨b, o, rfl, (hb.cell (p := ⟨b, o + i, none⟩) hlt).trans hcell⟩
theorem URow.drewN {w : World} {v : Value} {xs : List Nat} (h : URow w v xs) (d : Nat) : URow (w.drewN d) v xs := h
theorem check_any (v : Value) (xs : List Nat) (w : World) (hv : URow w v xs) :
    Calls Try.prog 14 #[v] w fun e w' => e = .returned (.int .i64 (chk xs.length)) ∧ w = w' := by
  obtain ⟨p, c, rfl, _, _⟩ := hv
  generalize xs.length = n
  by_cases h0 : n = 0
  · subst h0
    go_enter Try.func14, Try.ntmps14
    go_wp2
    go_ret
    exact ⟨rfl, rfl⟩
  have hb0 : ((n : Int) == 0) = false := by simp; omega
  by_cases h8 : 8 < n
  · have hb : decide ((8 : Int) < (n : Int)) = true := decide_eq_true (by omega)
    have H : chk n = 3 := by unfold chk; rw [if_neg h0, if_pos h8]
    have H := Lib.hid H
    clear h0 h8
    go_enter Try.func14, Try.ntmps14
    go_wp2
    go_ret
    exact ⟨ret_int H.out.symm, rfl⟩
  · have hb : decide ((8 : Int) < (n : Int)) = false := decide_eq_false (by omega)
    have H : chk n = 0 := by unfold chk; rw [if_neg h0, if_neg h8]
    have H := Lib.hid H
    clear h0 h8
    go_enter Try.func14, Try.ntmps14
    go_wp2
    go_ret
    exact ⟨ret_int H.out.symm, rfl⟩
theorem rcheck_any (v : Value) (xs : List Nat) (w : World) (hv : URow w v xs) :
    Calls Try.prog 15 #[v] w fun e w' => e = .returned (.int .i64 (chk xs.length)) ∧ w = w' := by
  obtain ⟨p, c, rfl, _, _⟩ := hv
  generalize xs.length = n
  by_cases h0 : n = 0
  · subst h0
    go_enter Try.func15, Try.ntmps15
    go_wp2
    go_ret
    exact ⟨rfl, rfl⟩
  have hb0 : ((n : Int) == 0) = false := by simp; omega
  by_cases h8 : 8 < n
  · have hb : decide ((8 : Int) < (n : Int)) = true := decide_eq_true (by omega)
    have H : chk n = 3 := by unfold chk; rw [if_neg h0, if_pos h8]
    have H := Lib.hid H
    clear h0 h8
    go_enter Try.func15, Try.ntmps15
    go_wp2
    go_ret
    exact ⟨ret_int H.out.symm, rfl⟩
  · have hb : decide ((8 : Int) < (n : Int)) = false := decide_eq_false (by omega)
    have H : chk n = 0 := by unfold chk; rw [if_neg h0, if_neg h8]
    have H := Lib.hid H
    clear h0 h8
    go_enter Try.func15, Try.ntmps15
    go_wp2
    go_ret
    exact ⟨ret_int H.out.symm, rfl⟩
/-- Has the row of n words a bit i? -/
def hasB (n : Nat) (i : Int) : Bool := decide (0 ≤ i) && decide (i < 64 * (n : Int))
theorem has_any (v : Value) (xs : List Nat) (i : Int) (w : World) (hv : URow w v xs) (hl : xs.length ≤ 1000000) :
    Calls Try.prog 38 #[v, .int .i64 i] w fun e w' => e = .returned (.bool (hasB xs.length i)) ∧ w = w' := by
  obtain ⟨p, c, rfl, _, _⟩ := hv
  generalize xs.length = n at *
  by_cases h0 : 0 ≤ i
  · by_cases h1 : i < 64 * (n : Int)
    · have hb : decide (i < 64 * (n : Int)) = true := decide_eq_true h1
      have H := Lib.hid (show hasB n i = true by unfold hasB; simp; omega)
      go_enter Try.func38, Try.ntmps38
      go_wp2
      go_ret
      exact ⟨ret_bool H.out.symm, rfl⟩
    · have hb : decide (i < 64 * (n : Int)) = false := decide_eq_false h1
      have H := Lib.hid (show hasB n i = false by unfold hasB; simp; omega)
      go_enter Try.func38, Try.ntmps38
      go_wp2
      go_ret
      exact ⟨ret_bool H.out.symm, rfl⟩
  · have hb : decide (0 ≤ i) = false := decide_eq_false h0
    have H := Lib.hid (show hasB n i = false by unfold hasB; simp; omega)
    go_enter Try.func38, Try.ntmps38
    go_wp2
    go_ret
    exact ⟨ret_bool H.out.symm, rfl⟩
theorem lowBit_any (b : Bool) (w : World) : Calls Try.prog 45 #[.bool b] w fun e w' => e = .returned (.int .u64 ((b.toNat : Nat) : Int)) ∧ w = w' := by
  cases b
  all_goals
    go_enter Try.func45, Try.ntmps45
    go_wp2
    go_ret
    exact ⟨rfl, rfl⟩
theorem place_any (i : Nat) (w : World) (hi : i < 1000000000) : Calls Try.prog 42 #[.int .i64 i] w fun e w' => e = .returned (.int .u64 ((2 ^ (i % 64) : Nat) : Int)) ∧ w = w' := by
  go_enter Try.func42, Try.ntmps42
  go_wp2
  go_ret
  exact ⟨ret_int (wrap_pow (by omega)), rfl⟩
theorem bit_any (v : Value) (xs : List Nat) (i : Nat) (w : World) (hv : URow w v xs) (hw : Wf xs) (hl : xs.length ≤ 1000) (hi : i < 64 * xs.length) :
    Calls Try.prog 39 #[v, .int .i64 i] w fun e w' => e = .returned (.bool (rbit xs i)) ∧ ∃ d, w' = w.drewN d := by
  obtain ⟨p, c, rfl, hc, hx⟩ := hv
  obtain ⟨x, hxi⟩ : ∃ x, xs[i / 64]? = some x := ⟨_, List.getElem?_eq_getElem (by omega)⟩
  obtain ⟨b, o, rfl, hcell⟩ := hx _ x hxi
  go_enter Try.func39, Try.ntmps39
  go_wp2
  go_quiet ((go_at_call 42; exact Calls.quiet_of_same ((place_any _ _ (by omega)).mono (by rintro e w' ⟨rfl, rfl⟩; exact ⟨rfl, rfl⟩))))
  go_wp2
  go_ret
  refine ⟨ret_bool ?_, ⟨_, rfl⟩⟩
  unfold rbit
  rw [List.getD_eq_getElem?_getD, hxi, u64_test (hw x (List.mem_of_getElem? hxi)) (by omega)]; rfl
end Go.Proofs.Ytnegnmjjibhldaa
