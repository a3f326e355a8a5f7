/- MasksPure and MasksChoices at numbers that came in. -/
import Derived.Test.YtjckkohmgalabaaZk
namespace Go.Proofs.Ytjckkohmgalabaa
open Go.RowKit
theorem nat_of (a : Int) (h : 0 ≤ a ∧ a < 18446744073709551616) : ∃ n : Nat, a = (n : Int) ∧ n < 2 ^ 64 := ⟨a.toNat, by omega, by omega⟩
theorem pure_row (a b c : Int) (w : World) (ha : 0 ≤ a ∧ a < 18446744073709551616) (hb : 0 ≤ b ∧ b < 18446744073709551616) (hc : 0 ≤ c ∧ c < 18446744073709551616) : Calls Try.prog 3 #[.int .u64 a, .int .u64 b, .int .u64 c] w fun e w' => e = .returned (.bool true) ∧ Below w.heap.size w w' := by
  obtain ⟨a, rfl, ga⟩ := nat_of a ha
  obtain ⟨b, rfl, gb⟩ := nat_of b hb
  obtain ⟨c, rfl, gc⟩ := nat_of c hc
  exact pure_any a b c w ga gb gc
theorem choices_row (a b c : Int) (w : World) (ha : 0 ≤ a ∧ a < 18446744073709551616) (hb : 0 ≤ b ∧ b < 18446744073709551616) (hc : 0 ≤ c ∧ c < 18446744073709551616) : Calls Try.prog 8 #[.int .u64 a, .int .u64 b, .int .u64 c] w fun e w' => e = .returned (.bool true) ∧ Below w.heap.size w w' := by
  obtain ⟨a, rfl, ga⟩ := nat_of a ha
  obtain ⟨b, rfl, gb⟩ := nat_of b hb
  obtain ⟨c, rfl, gc⟩ := nat_of c hc
  exact choices_any a b c w ga gb gc
end Go.Proofs.Ytjckkohmgalabaa
