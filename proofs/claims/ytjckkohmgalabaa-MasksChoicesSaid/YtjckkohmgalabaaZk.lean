/- MasksPure, MasksChoices. -/
import Derived.Test.YtjckkohmgalabaaZj
namespace Go.Proofs.Ytjckkohmgalabaa
open Go.RowKit
set_option maxRecDepth 100000 in
theorem pure_any (m a b : Nat) (w : World) (hm : m < 2 ^ 64) (ha : a < 2 ^ 64) (hb : b < 2 ^ 64) : Calls Try.prog 3 #[.int .u64 (m : Int), .int .u64 (a : Int), .int .u64 (b : Int)] w fun e w' => e = .returned (.bool true) ∧ Below w.heap.size w w' := by
  have AW := Lib.hid awake_any
  have C1 := Lib.hid (fun w => of_any m w hm)
  have C2 := Lib.hid (fun w => rof_any m w hm)
  have C3 := Lib.hid (fun w => zero_any m w hm)
  have C4 := Lib.hid (fun w => rzero_any m w)
  have C5 := Lib.hid (fun w => not_any m w hm)
  have C6 := Lib.hid (fun w => rnot_any m w hm)
  have C7 := Lib.hid (fun w => sel_any m a b w hm ha hb)
  have C8 := Lib.hid (fun w => rsel_any m a b w hm ha hb)
  have C9 := Lib.hid (fun w => is_any m w hm)
  have C10 := Lib.hid (fun w => ris_any m w hm)
  obtain ⟨x1, h1⟩ : ∃ x, x = ofM m := ⟨_, rfl⟩
  obtain ⟨x2, h2⟩ : ∃ x, x = zeroM m := ⟨_, rfl⟩
  obtain ⟨x3, h3⟩ : ∃ x, x = onesN - m := ⟨_, rfl⟩
  obtain ⟨x4, h4⟩ : ∃ x, x = selM m a b := ⟨_, rfl⟩
  obtain ⟨x5, h5⟩ : ∃ x, x = decide (isM m) := ⟨_, rfl⟩
  simp only [← h1] at C1 C2
  simp only [← h2] at C3 C4
  simp only [← h3] at C5 C6
  simp only [← h4] at C7 C8
  simp only [← h5] at C9 C10
  clear h1 h2 h3 h4 h5 hm ha hb
  go_enter Try.func3, Try.ntmps3
  go_wp2_with (first
    | (go_at_call 9; (with_reducible refine (C1.out _).mono ?_); rintro e w' ⟨rfl, rfl⟩)
    | (go_at_call 10; (with_reducible refine (C2.out _).mono ?_); rintro e w' ⟨rfl, rfl⟩)
    | (go_at_call 11; (with_reducible refine (C3.out _).mono ?_); rintro e w' ⟨rfl, rfl⟩)
    | (go_at_call 12; (with_reducible refine (C4.out _).mono ?_); rintro e w' ⟨rfl, rfl⟩)
    | (go_at_call 13; (with_reducible refine (C5.out _).mono ?_); rintro e w' ⟨rfl, rfl⟩)
    | (go_at_call 14; (with_reducible refine (C6.out _).mono ?_); rintro e w' ⟨rfl, rfl⟩)
    | (go_at_call 15; (with_reducible refine (C7.out _).mono ?_); rintro e w' ⟨rfl, rfl⟩)
    | (go_at_call 16; (with_reducible refine (C8.out _).mono ?_); rintro e w' ⟨rfl, rfl⟩)
    | (go_at_call 17; (with_reducible refine (C9.out _).mono ?_); rintro e w' ⟨rfl, rfl⟩)
    | (go_at_call 18; (with_reducible refine (C10.out _).mono ?_); rintro e w' ⟨rfl, rfl⟩)
    | (go_at_call 19; (with_reducible refine (AW.out _).mono ?_); rintro e w13 ⟨rfl, hb13⟩))
  go_ret
  exact ⟨rfl, hb13⟩
theorem of_next (m : Nat) : ∃ m1 : Nat, IntKind.u64.wrap ((m : Int) + 1) = (m1 : Int) ∧ m1 < 2 ^ 64 ∧ onesN - ofM m1 = ofM m := by
  refine ⟨(m + 1) % 2 ^ 64, by rw [IntKind.wrap_u64]; omega, Nat.mod_lt _ (by decide), ?_⟩
  unfold ofM onesN
  rcases Nat.mod_two_eq_zero_or_one m with h | h
  · rw [if_neg (by omega : ¬ m % 2 = 1), if_pos (by omega)]
  · rw [if_pos h, if_neg (by omega)]
theorem sel_and {m a b : Nat} (hm : m < 2 ^ 64) : selM m a b &&& m = a &&& m :=
  word_ext (Nat.lt_of_le_of_lt Nat.and_le_right hm) (Nat.lt_of_le_of_lt Nat.and_le_right hm) fun k hk => by
    rw [Nat.testBit_and, Nat.testBit_and, selM_bit]; cases m.testBit k <;> simp
theorem sel_andNot {m a b : Nat} (hm : m < 2 ^ 64) (ha : a < 2 ^ 64) (hb : b < 2 ^ 64) : selM m a b &&& (onesN - m) = b &&& (onesN - m) :=
  word_ext (Nat.lt_of_le_of_lt Nat.and_le_left (selM_lt ha hb)) (Nat.lt_of_le_of_lt Nat.and_le_left hb) fun k hk => by
    rw [Nat.testBit_and, Nat.testBit_and, selM_bit, not_bit m k hm hk]; cases m.testBit k <;> simp
set_option maxRecDepth 100000 in
set_option maxHeartbeats 4000000 in
theorem choices_any (m a b : Nat) (w : World) (hm : m < 2 ^ 64) (ha : a < 2 ^ 64) (hb : b < 2 ^ 64) : Calls Try.prog 8 #[.int .u64 (m : Int), .int .u64 (a : Int), .int .u64 (b : Int)] w fun e w' => e = .returned (.bool true) ∧ Below w.heap.size w w' := by
  have AW := Lib.hid awake_any
  have hN : onesN - m < 2 ^ 64 := by unfold onesN; omega
  obtain ⟨m1, e1, hm1, hn1⟩ := of_next m
  have S1 := Lib.hid (fun w => sel_any m a b w hm ha hb)
  have S2 := Lib.hid (fun w => show Calls Try.prog 15 #[.int .u64 18446744073709551615, .int .u64 (a : Int), .int .u64 (b : Int)] w fun e w' => e = .returned (.int .u64 (a : Int)) ∧ w = w' by
    have := sel_any onesN a b w (by decide) ha hb
    rw [selM_ones ha hb] at this
    exact this)
  have S3 := Lib.hid (fun w => show Calls Try.prog 15 #[.int .u64 0, .int .u64 (a : Int), .int .u64 (b : Int)] w fun e w' => e = .returned (.int .u64 (b : Int)) ∧ w = w' by
    have := sel_any 0 a b w (by decide) ha hb
    rw [selM_zero] at this
    exact this)
  have S4 := Lib.hid (fun w => show Calls Try.prog 15 #[.int .u64 ((onesN - m : Nat) : Int), .int .u64 (a : Int), .int .u64 (b : Int)] w fun e w' => e = .returned (.int .u64 (selM m b a : Int)) ∧ w = w' by
    have := sel_any (onesN - m) a b w hN ha hb
    rw [selM_not hm ha hb] at this
    exact this)
  have S5 := Lib.hid (fun w => sel_any m b a w hm hb ha)
  have S6 := Lib.hid (fun w => show Calls Try.prog 15 #[.int .u64 (m : Int), .int .u64 (a : Int), .int .u64 (a : Int)] w fun e w' => e = .returned (.int .u64 (a : Int)) ∧ w = w' by
    have := sel_any m a a w hm ha ha
    rw [selM_self] at this
    exact this)
  have N1 := Lib.hid (fun w => not_any m w hm)
  have N2 := Lib.hid (fun w => show Calls Try.prog 13 #[.int .u64 (ofM m1 : Int)] w fun e w' => e = .returned (.int .u64 (ofM m : Int)) ∧ w = w' by
    have := not_any (ofM m1) w (ofM_lt m1)
    rw [hn1] at this
    exact this)
  have O1 := Lib.hid (fun w => of_any m w hm)
  have O2 := Lib.hid (fun w => of_any m1 w hm1)
  have O3 := Lib.hid (fun w => of_any a w ha)
  have Z1 := Lib.hid (fun w => zero_any a w ha)
  have I1 := Lib.hid (fun w => show Calls Try.prog 17 #[.int .u64 (ofM a : Int)] w fun e w' => e = .returned (.bool true) ∧ w = w' by
    have := is_any (ofM a) w (ofM_lt a)
    rw [decide_eq_true (ofM_mask a)] at this
    exact this)
  have I2 := Lib.hid (fun w => show Calls Try.prog 17 #[.int .u64 (zeroM a : Int)] w fun e w' => e = .returned (.bool true) ∧ w = w' by
    have := is_any (zeroM a) w (zeroM_lt a)
    rw [decide_eq_true (zeroM_mask a)] at this
    exact this)
  obtain ⟨bq, hbq⟩ : ∃ b, ((a : Int) == 0) = b := ⟨_, rfl⟩
  obtain ⟨z, hz⟩ : ∃ z : Nat, z = if bq then 1 else 0 := ⟨_, rfl⟩
  have hz2 : z < 2 ^ 64 := by rw [hz]; split <;> decide
  have hz3 : ofM z = zeroM a := by
    rw [hz, ← hbq]; unfold zeroM
    by_cases h : a = 0
    · subst h; rfl
    · rw [if_neg h, if_neg (by rw [beq_iff_eq]; omega)]; rfl
  have B1 := Lib.hid (fun w => show Calls Try.prog 33 #[.bool bq] w fun e w' => e = .returned (.int .u64 (z : Int)) ∧ w = w' by
    have := boolBit_any bq w
    rw [show (if bq = true then (1 : Int) else 0) = (z : Int) by rw [hz]; split <;> rfl] at this
    exact this)
  have O4 := Lib.hid (fun w => show Calls Try.prog 9 #[.int .u64 (z : Int)] w fun e w' => e = .returned (.int .u64 (zeroM a : Int)) ∧ w = w' by
    have := of_any z w hz2
    rw [hz3] at this
    exact this)
  have sl := selM_lt (m := m) ha hb
  have q1 := u64_and_nat (selM m a b) m sl hm
  have q2 := u64_and_nat a m ha hm
  rw [sel_and hm, ← q2] at q1
  have q3 := u64_andNot_nat (selM m a b) m sl hm
  have q4 := u64_andNot_nat b m hb hm
  rw [show 18446744073709551615 - m = onesN - m from rfl, sel_andNot hm ha hb] at q3
  rw [show 18446744073709551615 - m = onesN - m from rfl] at q4
  rw [← q4] at q3
  clear q2 q4
  obtain ⟨s, hs⟩ : ∃ s, s = selM m a b := ⟨_, rfl⟩
  obtain ⟨t, ht⟩ : ∃ t, t = selM m b a := ⟨_, rfl⟩
  obtain ⟨n, hn⟩ : ∃ n, n = onesN - m := ⟨_, rfl⟩
  obtain ⟨o1, ho1⟩ : ∃ n, n = ofM m := ⟨_, rfl⟩
  obtain ⟨o2, ho2⟩ : ∃ n, n = ofM m1 := ⟨_, rfl⟩
  obtain ⟨o3, ho3⟩ : ∃ n, n = ofM a := ⟨_, rfl⟩
  obtain ⟨z1, hz1⟩ : ∃ n, n = zeroM a := ⟨_, rfl⟩
  simp only [← hs] at S1 q1 q3
  simp only [← ht, ← hn] at S4 S5 N1
  simp only [← ho1, ← ho2] at N2 O1 O2
  simp only [← ho3, ← hz1] at O3 Z1 I1 I2 O4
  clear hs ht hn ho1 ho2 ho3 hz1 sl hz hz2 hz3 hN hn1 hm1 hm ha hb
  go_enter Try.func8, Try.ntmps8
  go_wp2_with (first
    | (go_at_call 15; (with_reducible refine (S1.out _).mono ?_); rintro e w' ⟨rfl, rfl⟩)
    | (go_at_call 15; (with_reducible refine (S2.out _).mono ?_); rintro e w' ⟨rfl, rfl⟩)
    | (go_at_call 15; (with_reducible refine (S3.out _).mono ?_); rintro e w' ⟨rfl, rfl⟩)
    | (go_at_call 15; (with_reducible refine (S4.out _).mono ?_); rintro e w' ⟨rfl, rfl⟩)
    | (go_at_call 15; (with_reducible refine (S5.out _).mono ?_); rintro e w' ⟨rfl, rfl⟩)
    | (go_at_call 15; (with_reducible refine (S6.out _).mono ?_); rintro e w' ⟨rfl, rfl⟩)
    | (go_at_call 13; (with_reducible refine (N1.out _).mono ?_); rintro e w' ⟨rfl, rfl⟩)
    | (go_at_call 13; (with_reducible refine (N2.out _).mono ?_); rintro e w' ⟨rfl, rfl⟩)
    | (go_at_call 9; (with_reducible refine (O1.out _).mono ?_); rintro e w' ⟨rfl, rfl⟩)
    | (go_at_call 9; (with_reducible refine (O2.out _).mono ?_); rintro e w' ⟨rfl, rfl⟩)
    | (go_at_call 9; (with_reducible refine (O3.out _).mono ?_); rintro e w' ⟨rfl, rfl⟩)
    | (go_at_call 9; (with_reducible refine (O4.out _).mono ?_); rintro e w' ⟨rfl, rfl⟩)
    | (go_at_call 11; (with_reducible refine (Z1.out _).mono ?_); rintro e w' ⟨rfl, rfl⟩)
    | (go_at_call 17; (with_reducible refine (I1.out _).mono ?_); rintro e w' ⟨rfl, rfl⟩)
    | (go_at_call 17; (with_reducible refine (I2.out _).mono ?_); rintro e w' ⟨rfl, rfl⟩)
    | (go_at_call 33; (with_reducible refine (B1.out _).mono ?_); rintro e w' ⟨rfl, rfl⟩)
    | (go_at_call 19; (with_reducible refine (AW.out _).mono ?_); rintro e w13 ⟨rfl, hb13⟩))
  go_ret
  exact ⟨rfl, hb13⟩
end Go.Proofs.Ytjckkohmgalabaa
