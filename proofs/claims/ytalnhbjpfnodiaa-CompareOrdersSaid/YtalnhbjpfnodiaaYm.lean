/- ComparePure. -/
import Derived.Test.YtalnhbjpfnodiaaYl
namespace Go.Proofs.Ytalnhbjpfnodiaa
open Go.RowKit
theorem nat_of (a : Int) (h : 0 ≤ a ∧ a < 18446744073709551616) : ∃ n : Nat, a = (n : Int) ∧ n < 2 ^ 64 := ⟨a.toNat, by omega, by omega⟩
set_option maxRecDepth 100000 in
theorem pure_any (a b c : Nat) (w : World) (ha : a < 2 ^ 64) (hb : b < 2 ^ 64) (hc : c < 2 ^ 64) : Calls Try.prog 3 #[.int .u64 (a : Int), .int .u64 (b : Int), .int .u64 (c : Int)] w fun e w' => e = .returned (.bool true) ∧ Below w.heap.size w w' := by
  have AW := Lib.hid awake_any
  have C1 := Lib.hid (fun w => equal_any a b w ha hb)
  have C2 := Lib.hid (fun w => requal_any a b w)
  have C3 := Lib.hid (fun w => less_any a b w ha hb)
  have C4 := Lib.hid (fun w => rless_any a b w)
  have C5 := Lib.hid (fun w => signed_any a b w ha hb)
  have C6 := Lib.hid (fun w => rsigned_any a b w ha hb)
  have C7 := Lib.hid (fun w => between_any a b c w ha hb hc)
  have C8 := Lib.hid (fun w => rbetween_any a b c w)
  have C9 := Lib.hid (fun w => min_any a b w ha hb)
  have C10 := Lib.hid (fun w => rmin_any a b w)
  have C11 := Lib.hid (fun w => max_any a b w ha hb)
  have C12 := Lib.hid (fun w => rmax_any a b w)
  obtain ⟨x1, h1⟩ : ∃ x, x = eqM a b := ⟨_, rfl⟩
  obtain ⟨x2, h2⟩ : ∃ x, x = ltM a b := ⟨_, rfl⟩
  obtain ⟨x3, h3⟩ : ∃ x, x = slM a b := ⟨_, rfl⟩
  obtain ⟨x4, h4⟩ : ∃ x, x = btM a b c := ⟨_, rfl⟩
  obtain ⟨x5, h5⟩ : ∃ x, x = min a b := ⟨_, rfl⟩
  obtain ⟨x6, h6⟩ : ∃ x, x = max a b := ⟨_, rfl⟩
  simp only [← h1] at C1 C2
  simp only [← h2] at C3 C4
  simp only [← h3] at C5 C6
  simp only [← h4] at C7 C8
  simp only [← h5] at C9 C10
  simp only [← h6] at C11 C12
  clear h1 h2 h3 h4 h5 h6 ha hb hc
  go_enter Try.func3, Try.ntmps3
  go_wp2_with (first
    | (go_at_call 9; (with_reducible refine (C1.out _).mono ?_); rintro e w' ⟨rfl, rfl⟩)
    | (go_at_call 10; (with_reducible refine (C2.out _).mono ?_); rintro e w' ⟨rfl, rfl⟩)
    | (go_at_call 11; (with_reducible refine (C3.out _).mono ?_); rintro e w' ⟨rfl, rfl⟩)
    | (go_at_call 12; (with_reducible refine (C4.out _).mono ?_); rintro e w' ⟨rfl, rfl⟩)
    | (go_at_call 13; (with_reducible refine (C5.out _).mono ?_); rintro e w' ⟨rfl, rfl⟩)
    | (go_at_call 14; (with_reducible refine (C6.out _).mono ?_); rintro e w' ⟨rfl, rfl⟩)
    | (go_at_call 15; (with_reducible refine (C7.out _).mono ?_); rintro e w' ⟨rfl, rfl⟩)
    | (go_at_call 16; (with_reducible refine (C8.out _).mono ?_); rintro e w' ⟨rfl, rfl⟩)
    | (go_at_call 17; (with_reducible refine (C9.out _).mono ?_); rintro e w' ⟨rfl, rfl⟩)
    | (go_at_call 18; (with_reducible refine (C10.out _).mono ?_); rintro e w' ⟨rfl, rfl⟩)
    | (go_at_call 19; (with_reducible refine (C11.out _).mono ?_); rintro e w' ⟨rfl, rfl⟩)
    | (go_at_call 20; (with_reducible refine (C12.out _).mono ?_); rintro e w' ⟨rfl, rfl⟩)
    | (go_at_call 21; (with_reducible refine (AW.out _).mono ?_); rintro e w13 ⟨rfl, hb13⟩))
  go_ret
  exact ⟨rfl, hb13⟩
theorem pure_row (a b c : Int) (w : World) (ha : 0 ≤ a ∧ a < 18446744073709551616) (hb : 0 ≤ b ∧ b < 18446744073709551616) (hc : 0 ≤ c ∧ c < 18446744073709551616) : Calls Try.prog 3 #[.int .u64 a, .int .u64 b, .int .u64 c] w fun e w' => e = .returned (.bool true) ∧ Below w.heap.size w w' := by
  obtain ⟨a, rfl, ga⟩ := nat_of a ha
  obtain ⟨b, rfl, gb⟩ := nat_of b hb
  obtain ⟨c, rfl, gc⟩ := nat_of c hc
  exact pure_any a b c w ga gb gc
end Go.Proofs.Ytalnhbjpfnodiaa
