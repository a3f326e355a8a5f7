/- CompareOrders. -/
import Derived.Test.YtalnhbjpfnodiaaYm
namespace Go.Proofs.Ytalnhbjpfnodiaa
open Go.RowKit
theorem min_xor_max (a b : Nat) : min a b ^^^ max a b = a ^^^ b := by
  rcases Nat.le_total a b with h | h
  · rw [Nat.min_eq_left h, Nat.max_eq_right h]
  · rw [Nat.min_eq_right h, Nat.max_eq_left h, Nat.xor_comm]
theorem three_masks (a b : Nat) : ltM a b &&& ltM b a = 0 ∧ ltM a b &&& eqM a b = 0 ∧ ltM b a &&& eqM a b = 0 ∧ ltM a b ||| ltM b a ||| eqM a b = onesN := by
  unfold ltM eqM
  by_cases h1 : a < b
  · rw [if_pos h1, if_neg (by omega), if_neg (by omega)]; decide
  · by_cases h2 : b < a
    · rw [if_neg h1, if_pos h2, if_neg (by omega)]; decide
    · rw [if_neg h1, if_neg h2, if_pos (by omega)]; decide
theorem trans_masks (a b c : Nat) : (ltM a b &&& ltM b c) &&& (onesN - ltM a c) = 0 := by
  unfold ltM
  by_cases h1 : a < b
  · by_cases h2 : b < c
    · rw [if_pos h1, if_pos h2, if_pos (by omega)]; decide
    · rw [if_pos h1, if_neg h2]; simp
  · rw [if_neg h1]; simp
set_option maxRecDepth 100000 in
set_option maxHeartbeats 4000000 in
theorem orders_any (a b c : Nat) (w : World) (ha : a < 2 ^ 64) (hb : b < 2 ^ 64) (hc : c < 2 ^ 64) : Calls Try.prog 5 #[.int .u64 (a : Int), .int .u64 (b : Int), .int .u64 (c : Int)] w fun e w' => e = .returned (.bool true) ∧ Below w.heap.size w w' := by
  have AW := Lib.hid awake_any
  have hmn : min a b < 2 ^ 64 := by omega
  have hmx : max a b < 2 ^ 64 := by omega
  have L1 := Lib.hid (fun w => less_any a b w ha hb)
  have L2 := Lib.hid (fun w => less_any b a w hb ha)
  have L3 := Lib.hid (fun w => less_any b c w hb hc)
  have L4 := Lib.hid (fun w => less_any a c w ha hc)
  have L5 := Lib.hid (fun w => less_any (flip a) (flip b) w (flip_lt a) (flip_lt b))
  have L6 := Lib.hid (fun w => less_any c a w hc ha)
  have L7 := Lib.hid (fun w => show Calls Try.prog 11 #[.int .u64 ((max a b : Nat) : Int), .int .u64 ((min a b : Nat) : Int)] w fun e w' => e = .returned (.int .u64 0) ∧ w = w' by
    have := less_any (max a b) (min a b) w hmx hmn
    rw [show ltM (max a b) (min a b) = 0 by unfold ltM; rw [if_neg (by omega)]] at this
    exact this)
  have Q1 := Lib.hid (fun w => equal_any a b w ha hb)
  have Q2 := Lib.hid (fun w => show Calls Try.prog 9 #[.int .u64 (a : Int), .int .u64 (a : Int)] w fun e w' => e = .returned (.int .u64 18446744073709551615) ∧ w = w' by
    have := equal_any a a w ha ha
    rw [show eqM a a = onesN from if_pos rfl] at this
    exact this)
  have S1 := Lib.hid (fun w => show Calls Try.prog 13 #[.int .u64 (a : Int), .int .u64 (b : Int)] w fun e w' => e = .returned (.int .u64 (ltM (flip a) (flip b) : Int)) ∧ w = w' by
    have := signed_any a b w ha hb
    rw [← of_flip ha hb, of_ltN] at this
    exact this)
  have BT := Lib.hid (fun w => between_any c a b w hc ha hb)
  have MN := Lib.hid (fun w => min_any a b w ha hb)
  have MX := Lib.hid (fun w => max_any a b w ha hb)
  obtain ⟨g1, g2, g3, g4⟩ := three_masks a b
  have g5 := trans_masks a b c
  have o1 : ltM a b ||| ltM b a < 2 ^ 64 := Nat.or_lt_two_pow (ltM_lt _ _) (ltM_lt _ _)
  have o2 : ltM a b &&& ltM b c < 2 ^ 64 := Nat.lt_of_le_of_lt Nat.and_le_right (ltM_lt _ _)
  have o3 : ltM c a ||| ltM b c < 2 ^ 64 := Nat.or_lt_two_pow (ltM_lt _ _) (ltM_lt _ _)
  have f1 := u64_and_nat (ltM a b) (ltM b a) (ltM_lt _ _) (ltM_lt _ _)
  have f2 := u64_and_nat (ltM a b) (eqM a b) (ltM_lt _ _) (eqM_lt _ _)
  have f3 := u64_and_nat (ltM b a) (eqM a b) (ltM_lt _ _) (eqM_lt _ _)
  have f4 := u64_or_nat (ltM a b) (ltM b a) (ltM_lt _ _) (ltM_lt _ _)
  have f5 := u64_or_nat (ltM a b ||| ltM b a) (eqM a b) o1 (eqM_lt _ _)
  have f6 := u64_and_nat (ltM a b) (ltM b c) (ltM_lt _ _) (ltM_lt _ _)
  have f7 := u64_andNot_nat (ltM a b &&& ltM b c) (ltM a c) o2 (ltM_lt _ _)
  have f8 := u64_or_nat (ltM c a) (ltM b c) (ltM_lt _ _) (ltM_lt _ _)
  have f9 := not_u64 o3
  rw [btM_not] at f9
  have f10 := u64_xor_nat (min a b) (max a b) hmn hmx
  have f11 := u64_xor_nat a b ha hb
  rw [min_xor_max] at f10
  have f12 := flip_u64 ha
  have f13 := flip_u64 hb
  rw [show 18446744073709551615 - ltM a c = onesN - ltM a c from rfl, g5] at f7
  rw [g1] at f1
  rw [g2] at f2
  rw [g3] at f3
  rw [g4] at f5
  obtain ⟨mn, hmn1⟩ : ∃ z, z = min a b := ⟨_, rfl⟩
  obtain ⟨mx, hmx1⟩ : ∃ z, z = max a b := ⟨_, rfl⟩
  obtain ⟨t1, ht1⟩ : ∃ t, ((mn : Int) == (a : Int)) = t := ⟨_, rfl⟩
  have ht2 : t1 = false → ((mn : Int) == (b : Int)) = true := fun h => by
    rw [← ht1, beq_eq_false_iff_ne] at h
    rw [beq_iff_eq]; omega
  have ht1n : (mn == a) = t1 := by
    rw [← ht1]
    by_cases h : mn = a
    · rw [h]; simp
    · rw [beq_eq_false_iff_ne.2 h, beq_eq_false_iff_ne.2 (by omega)]
  have ht2n : t1 = false → (mn == b) = true := fun h => by
    have := ht2 h
    rw [beq_iff_eq] at this ⊢; omega
  simp only [← hmn1, ← hmx1] at L7 MN MX f10
  obtain ⟨x1, h1⟩ : ∃ x, x = ltM a b := ⟨_, rfl⟩
  obtain ⟨x2, h2⟩ : ∃ x, x = ltM b a := ⟨_, rfl⟩
  obtain ⟨x3, h3⟩ : ∃ x, x = ltM b c := ⟨_, rfl⟩
  obtain ⟨x4, h4⟩ : ∃ x, x = ltM a c := ⟨_, rfl⟩
  obtain ⟨x5, h5⟩ : ∃ x, x = ltM (flip a) (flip b) := ⟨_, rfl⟩
  obtain ⟨x6, h6⟩ : ∃ x, x = ltM c a := ⟨_, rfl⟩
  obtain ⟨x7, h7⟩ : ∃ x, x = eqM a b := ⟨_, rfl⟩
  obtain ⟨x8, h8⟩ : ∃ x, x = btM c a b := ⟨_, rfl⟩
  simp only [← h1, ← h2, ← h3, ← h4, ← h5, ← h6, ← h7, ← h8] at L1 L2 L3 L4 L5 L6 Q1 S1 BT f1 f2 f3 f4 f5 f6 f7 f8 f9
  obtain ⟨y1, k1⟩ : ∃ x, x = x1 ||| x2 := ⟨_, rfl⟩
  obtain ⟨y2, k2⟩ : ∃ x, x = x1 &&& x3 := ⟨_, rfl⟩
  obtain ⟨y3, k3⟩ : ∃ x, x = x6 ||| x3 := ⟨_, rfl⟩
  obtain ⟨y4, k4⟩ : ∃ x, x = a ^^^ b := ⟨_, rfl⟩
  simp only [← k1, ← k2, ← k3, ← k4] at f4 f5 f6 f7 f8 f9 f10 f11
  obtain ⟨fa, hfa⟩ : ∃ x, x = flip a := ⟨_, rfl⟩
  obtain ⟨fb, hfb⟩ : ∃ x, x = flip b := ⟨_, rfl⟩
  simp only [← hfa, ← hfb] at L5 f12 f13
  clear h1 h2 h3 h4 h5 h6 h7 h8 k1 k2 k3 k4 hfa hfb hmn1 hmx1 g1 g2 g3 g4 g5 o1 o2 o3 hmn hmx ha hb hc
  cases t1
  case' false => have ht3 := ht2 rfl; have ht3n := ht2n rfl
  all_goals
    clear ht2 ht2n
    go_enter Try.func5, Try.ntmps5
    go_wp2_with (first
      | (go_at_call 11; (first | (with_reducible refine (L1.out _).mono ?_) | (with_reducible refine (L2.out _).mono ?_) | (with_reducible refine (L3.out _).mono ?_) | (with_reducible refine (L4.out _).mono ?_) | (with_reducible refine (L5.out _).mono ?_) | (with_reducible refine (L6.out _).mono ?_) | (with_reducible refine (L7.out _).mono ?_)); rintro e w' ⟨rfl, rfl⟩)
      | (go_at_call 9; (first | (with_reducible refine (Q1.out _).mono ?_) | (with_reducible refine (Q2.out _).mono ?_)); rintro e w' ⟨rfl, rfl⟩)
      | (go_at_call 13; (with_reducible refine (S1.out _).mono ?_); rintro e w' ⟨rfl, rfl⟩)
      | (go_at_call 15; (with_reducible refine (BT.out _).mono ?_); rintro e w' ⟨rfl, rfl⟩)
      | (go_at_call 17; (with_reducible refine (MN.out _).mono ?_); rintro e w' ⟨rfl, rfl⟩)
      | (go_at_call 19; (with_reducible refine (MX.out _).mono ?_); rintro e w' ⟨rfl, rfl⟩)
      | (go_at_call 21; (with_reducible refine (AW.out _).mono ?_); rintro e w13 ⟨rfl, hb13⟩))
    go_ret
    exact ⟨rfl, hb13⟩
theorem orders_row (a b c : Int) (w : World) (ha : 0 ≤ a ∧ a < 18446744073709551616) (hb : 0 ≤ b ∧ b < 18446744073709551616) (hc : 0 ≤ c ∧ c < 18446744073709551616) : Calls Try.prog 5 #[.int .u64 a, .int .u64 b, .int .u64 c] w fun e w' => e = .returned (.bool true) ∧ Below w.heap.size w w' := by
  obtain ⟨a, rfl, ga⟩ := nat_of a ha
  obtain ⟨b, rfl, gb⟩ := nat_of b hb
  obtain ⟨c, rfl, gc⟩ := nat_of c hc
  exact orders_any a b c w ga gb gc
end Go.Proofs.Ytalnhbjpfnodiaa
