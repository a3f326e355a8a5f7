/- pack, event. -/
import Derived.Test.YtjckkohmgalabaaC
import Derived.Laws.BitsAllLaws
namespace Go.Proofs.Ytjckkohmgalabaa
open Go.RowKit
theorem pk_or (k a : Nat) (hk : 1 ≤ k ∧ k < 3) (ha : a < 65536) : bits .or .i64 ((k : Int) * 65536) (a : Int) = ((k * 65536 + a : Nat) : Int) := by
  have h : bits .or .i64 ((k * 65536 : Nat) : Int) (a : Int) = ((k * 65536 ||| a : Nat) : Int) := by
    have hx : k * 65536 ||| a < 2 ^ 63 := Nat.or_lt_two_pow (by omega) (by omega)
    have h1 : (BitVec.ofInt 64 ((k * 65536 : Nat) : Int)).toNat = k * 65536 := by
      rw [BitVec.ofInt_natCast, BitVec.toNat_ofNat]; exact Nat.mod_eq_of_lt (by omega)
    have h2 : (BitVec.ofInt 64 (a : Int)).toNat = a := by
      rw [BitVec.ofInt_natCast, BitVec.toNat_ofNat]; exact Nat.mod_eq_of_lt (by omega)
    show IntKind.i64.wrap ((BitVec.ofInt 64 ((k * 65536 : Nat) : Int) ||| BitVec.ofInt 64 (a : Int)).toNat : Int) = _
    rw [BitVec.toNat_or, h1, h2, IntKind.wrap_i64]
    omega
  rw [show ((k : Int) * 65536) = ((k * 65536 : Nat) : Int) by omega, h]
  congr 1
  have e : k * 65536 = 2 ^ 16 * k := by omega
  rw [e, Nat.two_pow_add_eq_or_of_lt (by omega)]
theorem pk_and (k a : Nat) (hk : k < 3) (ha : a < 65536) : bits .and .u32 ((k : Int) * 65536 + (a : Int)) 65535 = (a : Int) := by
  have h := u32_and_nat (k * 65536 + a) 65535 (by omega) (by omega)
  rw [show ((k : Int) * 65536 + (a : Int)) = ((k * 65536 + a : Nat) : Int) by omega]
  refine h.trans ?_
  congr 1
  rw [show (65535 : Nat) = 2 ^ 16 - 1 from rfl, Nat.and_two_pow_sub_one_eq_mod]
  omega
theorem pack_any (k a : Nat) (w : World) (hk : 1 ≤ k ∧ k < 3) (ha : a < 65536) : Calls Try.prog 77 #[.int .i64 (k : Int), .int .i64 (a : Int)] w fun e w' => e = .returned (.int .u32 ((k * 65536 + a : Nat) : Int)) ∧ w = w' := by
  have E := pk_or k a hk ha
  go_enter Try.func77, Try.ntmps77
  go_wp2
  go_ret
  exact ⟨ret_int (by omega), rfl⟩
theorem event_any (k a : Nat) (w : World) (hk : k < 3) (ha : a < 65536) : Calls Try.prog 72 #[.int .u32 ((k * 65536 + a : Nat) : Int)] w fun e w' => e = .returned (.agg #[.int .i32 (k : Int), .int .i32 (a : Int)]) ∧ Below w.heap.size w w' := by
  have E := pk_and k a hk ha
  have E1 : ((k : Int) * 65536 + (a : Int)) / 65536 = (k : Int) := by omega
  go_enter Try.func72, Try.ntmps72
  go_wp2
  trace_state
  refine bodyPost_ret (v := .agg #[.int .i32 (k : Int), .int .i32 (a : Int)]) ?_ rfl ?_
  · simp [results, Try.results72, go_sem]
  · exact ⟨rfl, (Below.refl _ w).alloc (Nat.le_refl _) _⟩
end Go.Proofs.Ytjckkohmgalabaa
