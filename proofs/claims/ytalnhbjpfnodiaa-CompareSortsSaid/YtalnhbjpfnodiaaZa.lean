/- Of, Zero, Not, Select, Is; the reference's. -/
import Derived.Test.YtalnhbjpfnodiaaZp
import Derived.Test.YtalnhbjpfnodiaaWe
import Derived.Test.YtalnhbjpfnodiaaN
import Derived.Test.YtalnhbjpfnodiaaY
namespace Go.Proofs.Ytalnhbjpfnodiaa
open Go.RowKit
theorem sel_any (m a b : Nat) (w : World) (hm : m < 2 ^ 64) (ha : a < 2 ^ 64) (hb : b < 2 ^ 64) : Calls Try.prog 40 #[.int .u64 (m : Int), .int .u64 (a : Int), .int .u64 (b : Int)] w fun e w' => e = .returned (.int .u64 (selM m a b : Int)) ∧ w = w' := by
  have e1 := sel_u64 hm ha hb
  go_enter Try.func40, Try.ntmps40
  go_wp2
  go_ret
  exact ⟨rfl, rfl⟩
theorem not_any (m : Nat) (w : World) (hm : m < 2 ^ 64) : Calls Try.prog 39 #[.int .u64 (m : Int)] w fun e w' => e = .returned (.int .u64 ((onesN - m : Nat) : Int)) ∧ w = w' := by
  have e1 := not_u64 hm
  go_enter Try.func39, Try.ntmps39
  go_wp2
  go_ret
  exact ⟨rfl, rfl⟩
theorem is_mask (m : Nat) (hm : m < 2 ^ 64) : decide (IntKind.u64.wrap ((m : Int) + 1) ≤ 1) = decide (isM m) := by
  rw [IntKind.wrap_u64]; unfold isM onesN
  exact decide_eq_decide.2 (by omega)
theorem is_any (m : Nat) (w : World) (hm : m < 2 ^ 64) : Calls Try.prog 93 #[.int .u64 (m : Int)] w fun e w' => e = .returned (.bool (decide (isM m))) ∧ w = w' := by
  have e1 := is_mask m hm
  go_enter Try.func93, Try.ntmps93
  go_wp2
  go_ret
  exact ⟨rfl, rfl⟩
theorem of_any (m : Nat) (w : World) (hm : m < 2 ^ 64) : Calls Try.prog 64 #[.int .u64 (m : Int)] w fun e w' => e = .returned (.int .u64 (ofM m : Int)) ∧ w = w' := by
  obtain ⟨z, hz⟩ : ∃ z : Int, z = (m : Int) % 2 := ⟨_, rfl⟩
  have e1 := low_u64 hm
  rw [show ((m % 2 : Nat) : Int) = z by omega] at e1
  have e2 := neg_bit m
  rw [show ((m % 2 : Nat) : Int) = z by omega] at e2
  clear hz
  go_enter Try.func64, Try.ntmps64
  go_wp2
  go_ret
  exact ⟨rfl, rfl⟩
theorem zero_u64 {m : Nat} (hm : m < 2 ^ 64) : IntKind.u64.wrap (-bits BinOp.xor IntKind.u64 (bits BinOp.or IntKind.u64 (m : Int) (IntKind.u64.wrap (-(m : Int))) / 9223372036854775808) 1) = (zeroM m : Int) := by
  have e0 : IntKind.u64.wrap (-(m : Int)) = (((2 ^ 64 - m) % 2 ^ 64 : Nat) : Int) := by rw [IntKind.wrap_u64]; omega
  have hl : (2 ^ 64 - m) % 2 ^ 64 < 2 ^ 64 := Nat.mod_lt _ (by decide)
  have ht := none_top hm
  rw [Nat.shiftRight_eq_div_pow] at ht
  rw [e0, u64_or_nat _ _ hm hl, show (9223372036854775808 : Int) = ((2 ^ 63 : Nat) : Int) by decide, ← Int.natCast_ediv, ht]
  unfold zeroM
  split <;> decide
theorem rof_any (m : Nat) (w : World) (hm : m < 2 ^ 64) : Calls Try.prog 52 #[.int .u64 (m : Int)] w fun e w' => e = .returned (.int .u64 (ofM m : Int)) ∧ w = w' := by
  by_cases h : m % 2 = 1
  · have e1 : (m : Int).tmod 2 = 1 := by rw [Int.tmod_eq_emod_of_nonneg (by omega)]; omega
    have e2 : ofM m = onesN := if_pos h
    go_enter Try.func52, Try.ntmps52
    go_wp2
    go_ret
    exact ⟨by rw [e2]; rfl, rfl⟩
  · have e1 : (m : Int).tmod 2 = 0 := by rw [Int.tmod_eq_emod_of_nonneg (by omega)]; omega
    have e2 : ofM m = 0 := if_neg h
    go_enter Try.func52, Try.ntmps52
    go_wp2
    go_ret
    exact ⟨by rw [e2]; rfl, rfl⟩
theorem rnot_any (m : Nat) (w : World) (hm : m < 2 ^ 64) : Calls Try.prog 98 #[.int .u64 (m : Int)] w fun e w' => e = .returned (.int .u64 ((onesN - m : Nat) : Int)) ∧ w = w' := by
  have e1 : IntKind.u64.wrap (18446744073709551615 - (m : Int)) = ((onesN - m : Nat) : Int) := by rw [IntKind.wrap_u64]; unfold onesN; omega
  go_enter Try.func98, Try.ntmps98
  go_wp2
  go_ret
  exact ⟨rfl, rfl⟩
theorem rsel_any (m a b : Nat) (w : World) (hm : m < 2 ^ 64) (ha : a < 2 ^ 64) (hb : b < 2 ^ 64) : Calls Try.prog 97 #[.int .u64 (m : Int), .int .u64 (a : Int), .int .u64 (b : Int)] w fun e w' => e = .returned (.int .u64 (selM m a b : Int)) ∧ w = w' := by
  have e1 := sel_ref_u64 hm ha hb
  obtain ⟨k, hk⟩ : ∃ k, k = onesN - m := ⟨_, rfl⟩
  rw [← hk] at e1
  have e2 := rnot_any m w hm
  rw [← hk] at e2
  have NA := Lib.hid e2
  clear e2 hk
  go_enter Try.func97, Try.ntmps97
  go_wp2_with (first
    | (go_at_call 98; (with_reducible refine (NA.out).mono ?_); rintro e w' ⟨rfl, rfl⟩))
  go_ret
  exact ⟨rfl, rfl⟩
theorem ris_any (m : Nat) (w : World) (hm : m < 2 ^ 64) : Calls Try.prog 95 #[.int .u64 (m : Int)] w fun e w' => e = .returned (.bool (decide (isM m))) ∧ w = w' := by
  by_cases h0 : m = 0
  · subst h0
    go_enter Try.func95, Try.ntmps95
    go_wp2
    go_ret
    exact ⟨rfl, rfl⟩
  · have t1 : ((m : Int) == 0) = false := by rw [beq_eq_false_iff_ne]; omega
    by_cases h1 : m = onesN
    · subst h1
      go_enter Try.func95, Try.ntmps95
      go_wp2
      go_ret
      exact ⟨rfl, rfl⟩
    · have t2 : ((m : Int) == 18446744073709551615) = false := by rw [beq_eq_false_iff_ne]; unfold onesN at h1; omega
      have t3 : decide (isM m) = false := decide_eq_false (by rintro (h | h); exact h0 h; exact h1 h)
      go_enter Try.func95, Try.ntmps95
      go_wp2
      go_ret
      exact ⟨by rw [t3]; rfl, rfl⟩
end Go.Proofs.Ytalnhbjpfnodiaa
